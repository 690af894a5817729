import Derived.Test.YtonfiahihmcmlaaJWder
import Derived.Test.YtonfiahihmcmlaaJEar
import Derived.Test.YtonfiahihmcmlaaJCutI
/- The program's Viable. -/
namespace Go.Proofs.Ytonfiahihmcmlaa
open Go.RowKit Go.Maps Go.Conc

open Classical in
/-- the last place up to n of which that holds, or -1 -/
noncomputable def lastB (p : Nat → Prop) : Nat → Int
  | 0 => if p 0 then 0 else -1
  | n + 1 => if p (n + 1) then ((n + 1 : Nat) : Int) else lastB p n
theorem lastB_none {p : Nat → Prop} {n : Nat} (h : ∀ m, m ≤ n → ¬ p m) : lastB p n = -1 := by
  induction n with
  | zero => unfold lastB; rw [if_neg (h 0 (Nat.le_refl _))]
  | succ n ih => unfold lastB; rw [if_neg (h _ (Nat.le_refl _))]; exact ih fun m hm => h m (by omega)
theorem lastB_some {p : Nat → Prop} {n m : Nat} (hm : m ≤ n) (h : p m) (hl : ∀ k, m < k → k ≤ n → ¬ p k) : lastB p n = (m : Int) := by
  induction n with
  | zero =>
    obtain rfl : m = 0 := by omega
    unfold lastB; rw [if_pos h]; rfl
  | succ n ih =>
    by_cases e : m = n + 1
    · subst e; unfold lastB; rw [if_pos h]
    · unfold lastB; rw [if_neg (hl _ (by omega) (Nat.le_refl _))]
      exact ih (by omega) fun k h1 h2 => hl k h1 (by omega)
/-- so much of the text may be the beginning of what the start comes to -/
def BegP (rs : List RuleD) (t : List ByteArray) (m : Nat) : Prop := Beg (· ∈ frs rs) t m (ruleAt rs 0).head 0
noncomputable def viaZ (rs : List RuleD) (t : List ByteArray) : Int := if (gramB rs && textB t) = true then lastB (BegP rs t) t.length else -1
theorem viaZ_no {rs : List RuleD} {t : List ByteArray} (h : (gramB rs && textB t) = false) : viaZ rs t = -1 := by unfold viaZ; rw [h]; rfl
theorem viaZ_yes {rs : List RuleD} {t : List ByteArray} (h1 : gramB rs = true) (h2 : textB t = true) : viaZ rs t = lastB (BegP rs t) t.length := by unfold viaZ; rw [h1, h2]; rfl
/-- how far the looks that were told so far have come -/
structure Far (S : St) (left : Lit → Bool) (z : Int) : Prop where
  lo : -1 ≤ z
  hi : z ≤ 12
  all : ∀ l ∈ S.known, left (lookK l) = false → (l.at' : Int) ≤ z
  one : z = -1 ∨ ∃ l ∈ S.known, z = (l.at' : Int)
theorem Far.end {rs : List RuleD} {t : List ByteArray} {S : St} {left : Lit → Bool} {z : Int} (h : Far S left z) (hl : ∀ kl, left kl = false) (F : Fits (frs rs) t) (hst : Started rs t S) : z = lastB (BegP rs t) t.length := by
  have he := hst.ends F
  have hfit : ∀ l ∈ S.known, l.at' ≤ t.length := fun l hl => (hst.1.inv.sound l hl).fit
  rcases h.one with rfl | ⟨l, hm, rfl⟩
  · rw [lastB_none]
    intro m _ b
    obtain ⟨l, hm, _⟩ := (he m).2 b
    have := h.all l hm (hl _)
    omega
  · rw [lastB_some (hfit l hm) ((he _).1 ⟨l, hm, rfl⟩)]
    intro k h1 _ b
    obtain ⟨l', hm', rfl⟩ := (he k).2 b
    have := h.all l' hm' (hl _)
    omega
theorem Far.next {S : St} {left : Lit → Bool} {z : Int} (h : Far S left z) (hok : ∀ l ∈ S.known, l.ok) {l : Look} (hl : l ∈ S.known) (h12 : l.at' ≤ 12) {z' : Int} (h1 : z ≤ z') (h2 : (l.at' : Int) ≤ z') (h3 : z' = z ∨ z' = (l.at' : Int)) : Far S (fun q => left q && !q.sameKey (lookK l)) z' := by
  have a := h.lo
  have b := h.hi
  refine ⟨by omega, by omega, fun l' hm hf => ?_, ?_⟩
  · rw [Bool.and_eq_false_iff] at hf
    rcases hf with hf | hf
    · have := h.all l' hm hf; omega
    · have hk : lookK l' = lookK l := by
        unfold lookK at hf ⊢
        simpa [Lit.sameKey] using hf
      obtain rfl := lookK_inj (hok l' hm) (hok l hl) hk
      exact h2
  · rcases h3 with rfl | rfl
    · exact h.one
    · exact .inr ⟨l, hl, rfl⟩
theorem key_known {S : St} {D : DataW Unit} (hat : ∀ l, WideAt.IsKeyLit l → ∀ z, D.atKey l z = (memF (S.known.map lookK) l).getD z) (hok : ∀ l ∈ S.known, l.ok) {x : Value} {kl : Lit} (hk : keyOf Try.prog 123 x = some kl) {y : DataW Unit} (hy : ∀ zd, D.atKey kl zd = y) : ∃ l ∈ S.known, x = lookV l ∧ kl = lookK l := by
  have h1 : kl ∈ S.known.map lookK := by
    refine Classical.byContradiction fun hn => ?_
    have e1 := (hat kl (kLook.key hk) (.lit (.bool true))).symm.trans (hy _)
    have e2 := (hat kl (kLook.key hk) (.lit (.bool false))).symm.trans (hy _)
    rw [memF_out hn] at e1 e2
    have := e1.trans e2.symm
    simp at this
  obtain ⟨l, hl, rfl⟩ := List.mem_map.1 h1
  exact ⟨l, hl, kLook.inj hk (keyLook (hok l hl)), rfl⟩
theorem invVal : ∀ (key : Value) (kl : Lit), keyOf Try.prog 123 key = some kl → ∃ x : Value, key = id x := fun key _ _ => ⟨key, rfl⟩
theorem invBool : ∀ (v : Value) (y : DataW Unit × List MemPlace), boolE v = some y → ∃ c : Value, v = id c := fun v _ _ => ⟨v, rfl⟩

set_option maxRecDepth 100000 in
set_option maxHeartbeats 4000000 in
theorem implViable_any (rs : List RuleD) (t : List ByteArray) (v tv : Value) (lo hi lo2 hi2 : Nat) (w : World) (h : Rules w lo hi v rs) (hh : hi ≤ w.heap.size) (h2 : Strs w lo2 hi2 tv t) (hh2 : hi2 ≤ w.heap.size) :
    Calls Try.prog 33 #[.agg #[v], tv] w fun e w' => e = .returned (.int .i64 (viaZ rs t)) ∧ Below w.heap.size w w' := by
  have HV := Lib.hid h
  have HW := Lib.hid h2
  obtain ⟨A, c, rfl, -⟩ := h
  obtain ⟨B, d, rfl, -⟩ := h2
  have hb := al1 w (.cells #[.slice A rs.length c] 25)
  have HB := Lib.hid hb
  have hsz : (w.alloc (.cells #[.slice A rs.length c] 25)).heap.size = w.heap.size + 1 := by simp
  have HSZ := Lib.hid hsz
  clear hb hsz
  cases hq : (gramB rs && textB t)
  · have HQ := Lib.hid hq
    have HD := Lib.hid (viaZ_no hq)
    clear hq
    go_enter Try.func33, Try.ntmps33
    go_wp2_with fail
    refine (searchStart_no rs t _ _ lo hi lo2 hi2 _ (HV.out.below HB.out hh) (by rw [HSZ.out]; omega) (HW.out.below HB.out hh2) (by rw [HSZ.out]; omega) HQ.out).mono ?_
    rintro _ w1 ⟨rfl, b1⟩
    have B1 := (HB.out.trans (b1.mono (by rw [HSZ.out]; omega)))
    have B2 := B1.trans ((al1 w1 (.cells #[.slice none 0 0, .slice none 0 0, .map none, .map none, .map none, .chan none] 117)).mono B1.size)
    have HB2 := Lib.hid B2
    clear b1 B1 B2
    go_wp2
    go_ret
    exact ⟨by rw [HD.out]; rfl, HB2.out⟩
  · have hg : gramB rs = true := by revert hq; cases gramB rs <;> simp
    have ht : textB t = true := by revert hq; cases textB t <;> simp
    have h12 := ((textB_iff t).1 ht).1
    have HFT := Lib.hid (frs_fits hg ht)
    have HG := Lib.hid hg
    have HT := Lib.hid ht
    clear hq hg ht
    go_enter Try.func33, Try.ntmps33
    go_wp2_with fail
    refine (searchStart_yes rs t _ _ lo hi lo2 hi2 _ (HV.out.below HB.out hh) (by rw [HSZ.out]; omega) (HW.out.below HB.out hh2) (by rw [HSZ.out]; omega) HG.out HT.out).mono ?_
    rintro _ w1 ⟨E, M, S, rfl, s1, hst, hE, b1⟩
    have B1 := (HB.out.trans (b1.mono (by rw [HSZ.out]; omega)))
    have hA := al1 w1 (.cells #[.slice E.A (frs rs).length E.c, .slice E.B t.length E.d, .map (some E.bk), .map (some E.bf), .map (some E.bw), .chan (some E.bq)] 117)
    have B2 := B1.trans (hA.mono B1.size)
    have s2 := s1.below hA
    have hok : ∀ l ∈ S.known, l.ok := fun l hl => (hst.1.inv.sound l hl).ok HFT.out
    have hfit : ∀ l ∈ S.known, l.at' ≤ 12 := fun l hl => by have := (hst.1.inv.sound l hl).fit; omega
    obtain ⟨D, hown, hat⟩ := s2.known
    have hz2 := B2.size
    have HB2 := Lib.hid B2
    have HAT := Lib.hid hat
    have HOWN := Lib.hid hown
    have HST := Lib.hid hst
    have HOK := Lib.hid hok
    have HFIT := Lib.hid hfit
    have hbk : w.heap.size ≤ E.bk := by have := s1.low.1; have := HSZ.out; omega
    clear s1 s2 hst b1 B1 B2 hA hok hfit hat hown
    unfold Env.v
    go_wp2_with (at_range; refine wpList_range_own _ rfl _ 112 rfl 123 4 kLook Try.underlying112 _ E.bk _ _ rfl HOWN.out ?_; intro w0 hrg0 hg0 hs0)
    go_frame
    have bel0 : Below w.heap.size w w0 := HB2.out.grown hg0 (by omega) (fun k hk => by cases hk)
    have hbr : E.bk < (w1.alloc (.cells #[.slice E.A (frs rs).length E.c, .slice E.B t.length E.d, .map (some E.bk), .map (some E.bf), .map (some E.bw), .chan (some E.bq)] 117)).heap.size := HOWN.out.lt
    generalize hrr : (w1.alloc (.cells #[.slice E.A (frs rs).length E.c, .slice E.B t.length E.d, .map (some E.bk), .map (some E.bf), .map (some E.bw), .chan (some E.bq)] 117)).heap.size = r at *
    clear hg0 hs0 hrr
    have hwr0 : w.heap.size ≤ r := by omega
    go_loopw [7, 8] (fun x _ wr => ∃ (left : Lit → Bool) (cnt : Nat) (z : Int), wr.ranges Try.prog 123 boolE E.bk r S.known.length D left cnt ∧ x = .int .i64 z ∧ Far S left z ∧ Below w.heap.size w wr) (fun _ _ wr => wr.rangeLeft E.bk r)
    case atStart =>
      refine ⟨_, _, -1, hrg0, rfl, ⟨by omega, by omega, fun l hl hf => ?_, .inl rfl⟩, bel0⟩
      have hhas : has D (lookK l) = true := has_true_of_atKey (y := .lit (.bool true)) fun z => by rw [HAT.out (lookK l) (kLook.key (keyLook (HOK.out l hl))), memF_in (List.mem_map.2 ⟨l, hl, rfl⟩)]; rfl
      rw [hhas] at hf
      cases hf
    case round =>
      obtain ⟨left, cnt, z, hrg, rfl, hfar, hbw⟩ := hrel
      rename World => wr
      have HRG := Lib.hid hrg
      have HFAR := Lib.hid hfar
      have hsw := hbw.size
      have zlo := hfar.lo
      have zhi := hfar.hi
      clear hrg hfar hrg0 bel0
      go_wp2_with (at_next; refine wpList_next_ranges _ rfl _ rfl 123 kLook boolE (id : Value → Value) (id : Value → Value) invVal invBool E.bk r S.known.length D left cnt rfl HRG.out ?_ ?_)
      · intro _ hl0
        have HE := Lib.hid (HFAR.out.end hl0 HFT.out HST.out)
        go_wp2
        go_ret
        refine ⟨?_, hbw⟩
        rw [viaZ_yes HG.out HT.out, ← HE.out]
        rfl
      · intro x cb kl y ps w2 cnt1 hkx hlk hvc hat hrg1 hlt1 hg1 hs1 hen
        obtain ⟨l, hl, hx, hkl⟩ := key_known HAT.out HOK.out hkx hat
        (try simp only [id] at hx)
        subst hx
        have h12l := HFIT.out l hl
        have HL := Lib.hid hl
        have HG1 := Lib.hid hg1
        have HR1 := Lib.hid hrg1
        have HKL := Lib.hid hkl
        have hb2 : Below w.heap.size w w2 := hbw.grown hg1 hsw (fun k hk => by injection hk with hk; omega)
        have hrA : (w2.alloc (.cells #[.int .i64 (l.rule : Int), .int .i64 (l.done : Int), .int .i64 (l.fr : Int), .int .i64 (l.at' : Int)] 123)).ranges Try.prog 123 boolE E.bk r S.known.length D (fun q => left q && !q.sameKey kl) cnt1 := hrg1.kept (row := none) (World.grownBy_alloc w2 _ none) (by simp) (by simp)
        have HRA := Lib.hid hrA
        have HBA := Lib.hid (hb2.trans ((al1 w2 (.cells #[.int .i64 (l.rule : Int), .int .i64 (l.done : Int), .int .i64 (l.fr : Int), .int .i64 (l.at' : Int)] 123)).mono hb2.size))
        clear hat hkx hlk hvc hg1 hs1 hrg1 hl hkl hb2 hrA
        (try simp only [id] at hen)
        unfold lookV at hen ⊢
        (try simp only [id])
        have hfn := HFAR.out.next HOK.out HL.out h12l (z' := max z (l.at' : Int)) (by omega) (by omega) (by omega)
        rw [← HKL.out] at hfn
        have HFN := Lib.hid hfn
        clear hfn
        go_wp2
        exact ⟨⟨_, cnt1, _, HRA.out, rfl, HFN.out, HBA.out⟩, by rw [HRA.out.left_eq, HRG.out.left_eq]; exact hlt1⟩
end Go.Proofs.Ytonfiahihmcmlaa

/- The program's Spans. -/
namespace Go.Proofs.Ytonfiahihmcmlaa
open Go.RowKit Go.Maps Go.Conc

/-- the head comes to the tokens of that number -/
def SpanP (rs : List RuleD) (t : List ByteArray) (h : ByteArray) (q : Nat) : Prop := q / 13 ≤ t.length ∧ q % 13 ≤ t.length ∧ Der (· ∈ rs) t [h] (q / 13) (q % 13)
open Classical in
noncomputable def spanTo (rs : List RuleD) (t : List ByteArray) (h : ByteArray) (q : Nat) : List Int := ((List.range q).filter fun q => decide (SpanP rs t h q)).map fun (q : Nat) => (q : Int)
noncomputable def spansOf (rs : List RuleD) (t : List ByteArray) (h : ByteArray) : List Int := if (gramB rs && textB t && headB h) = true then spanTo rs t h 169 else []
section
variable {rs : List RuleD} {t : List ByteArray} {h : ByteArray}
theorem spanTo_t {q : Nat} (hp : SpanP rs t h q) : spanTo rs t h (q + 1) = spanTo rs t h q ++ [(q : Int)] := by unfold spanTo; rw [List.range_succ, List.filter_append, List.map_append]; simp [hp]
theorem spanTo_f {q : Nat} (hp : ¬ SpanP rs t h q) : spanTo rs t h (q + 1) = spanTo rs t h q := by unfold spanTo; rw [List.range_succ, List.filter_append, List.map_append]; simp [hp]
theorem spanTo_skip {a b : Nat} (hab : a ≤ b) (hn : ∀ q, a ≤ q → q < b → ¬ SpanP rs t h q) : spanTo rs t h b = spanTo rs t h a := by
  induction b with
  | zero => obtain rfl : a = 0 := by omega
            rfl
  | succ b ih =>
    by_cases e : a = b + 1
    · subst e; rfl
    · rw [spanTo_f (hn b (by omega) (by omega))]
      exact ih (by omega) fun q h1 h2 => hn q h1 (by omega)
theorem spanTo_len (q : Nat) : (spanTo rs t h q).length ≤ q := by
  unfold spanTo
  rw [List.length_map]
  refine Nat.le_trans (List.length_filter_le _ _) ?_
  rw [List.length_range]; exact Nat.le_refl _
theorem spansOf_len : (spansOf rs t h).length ≤ 1000 := by
  unfold spansOf
  split
  · have := spanTo_len (rs := rs) (t := t) (h := h) 169; omega
  · simp
theorem SpanP.at {i k : Nat} (hk : k ≤ 12) : SpanP rs t h (13 * i + k) ↔ i ≤ t.length ∧ k ≤ t.length ∧ Der (· ∈ rs) t [h] i k := by
  unfold SpanP
  rw [show (13 * i + k) / 13 = i by omega, show (13 * i + k) % 13 = k by omega]
theorem spanTo_next {i : Nat} (h12 : t.length ≤ 12) (hi : i ≤ t.length) : spanTo rs t h (13 * (i + 1) + (i + 1)) = spanTo rs t h (13 * i + (t.length + 1)) := by
  apply spanTo_skip (by omega)
  intro q h1 h2 hp
  obtain ⟨p1, p2, p3⟩ := hp
  have := p3.le
  omega
theorem spanTo_last (h12 : t.length ≤ 12) : spanTo rs t h 169 = spanTo rs t h (13 * (t.length + 1) + 0) := by
  apply spanTo_skip (by omega)
  intro q h1 h2 hp
  obtain ⟨p1, p2, p3⟩ := hp
  omega
theorem spanTo_zero : spanTo rs t h 0 = [] := rfl
end
/-- all places were asked for -/
def askTo (rs : List RuleD) (h : ByteArray) : Nat → St
  | 0 => St.none
  | n + 1 => askS rs (askTo rs h n) h n
theorem askTo_inv {rs : List RuleD} {t : List ByteArray} {h : ByteArray} {n : Nat} (hn : n ≤ t.length + 1) : Inv rs t (askTo rs h n) := by
  induction n with
  | zero => exact Inv.none
  | succ n ih => exact (ih (by omega)).ask (by omega)
theorem askTo_rc (rs : List RuleD) (h : ByteArray) (n : Nat) : (askTo rs h n).rc = 0 := by
  induction n with
  | zero => rfl
  | succ n ih => exact (putAll_rest _ _).1.trans ih
theorem askTo_done {rs : List RuleD} {t : List ByteArray} {h : ByteArray} (n : Nat) : Done rs t (askTo rs h n) 0 := by
  induction n with
  | zero => exact Done.none
  | succ n ih => exact Done.asked _ _ _ ih
theorem askTo_mem {rs : List RuleD} {h : ByteArray} {n i : Nat} (hi : i < n) : ∀ l ∈ asks rs h i, l ∈ (askTo rs h n).known := by
  induction n with
  | zero => omega
  | succ n ih =>
    intro l hl
    show l ∈ (putAll _ _).known
    rw [putAll_mem]
    by_cases e : i = n
    · subst e; exact .inr hl
    · exact .inl (ih (by omega) l hl)
/-- a search for a head at every place, that has come to its end -/
theorem span_found {rs : List RuleD} {t : List ByteArray} {h : ByteArray} {S : St} (F : Fits (frs rs) t) (hb : headB h = true) (hr : Runs (frs rs) t (askTo (frs rs) h (t.length + 1)) S) (he : S.rc = S.known.length) {i : Nat} (hi : i ≤ t.length) (k : Nat) : (h, i, k) ∈ S.found ↔ Der (· ∈ rs) t [h] i k := by
  have D : Done (frs rs) t (askTo (frs rs) h (t.length + 1)) (askTo (frs rs) h (t.length + 1)).rc := by rw [askTo_rc]; exact askTo_done _
  exact ((hr.fin F.head (askTo_inv (Nat.le_refl _)) D he).found F.head F.tok hb (askTo_mem (by omega)) k).trans (der_frs F.tok)

set_option maxRecDepth 100000 in
set_option maxHeartbeats 4000000 in
theorem implSpans_no (rs : List RuleD) (t : List ByteArray) (h : ByteArray) (v tv : Value) (lo hi lo2 hi2 : Nat) (w : World) (hv : Rules w lo hi v rs) (hh : hi ≤ w.heap.size) (h2 : Strs w lo2 hi2 tv t) (hh2 : hi2 ≤ w.heap.size) (hno : (gramB rs && textB t && headB h) = false) :
    Calls Try.prog 35 #[.agg #[v], tv, .string h] w fun e w' => e = .returned (.slice none 0 0) ∧ Below w.heap.size w w' := by
  have HV := Lib.hid hv
  have HW := Lib.hid h2
  obtain ⟨A, c, rfl, -⟩ := hv
  obtain ⟨B, d, rfl, -⟩ := h2
  have hb := al1 w (.cells #[.slice A rs.length c] 25)
  have HB := Lib.hid hb
  have hsz : (w.alloc (.cells #[.slice A rs.length c] 25)).heap.size = w.heap.size + 1 := by simp
  have HSZ := Lib.hid hsz
  clear hb hsz
  cases hq : gramB rs
  · have HQ := Lib.hid hq
    clear hq hno
    go_enter Try.func35, Try.ntmps35
    go_wp2_with fail
    refine (implGramRight_any rs _ lo hi _ (HV.out.below HB.out hh) (by rw [HSZ.out]; omega)).mono ?_
    rintro _ w1 ⟨rfl, b1⟩
    rw [HQ.out]
    have HB1 := Lib.hid (HB.out.trans (b1.mono (by rw [HSZ.out]; omega)))
    clear b1
    go_wp2
    go_ret
    exact ⟨rfl, HB1.out⟩
  · cases ht : textB t
    · have HQ := Lib.hid hq
      have HT := Lib.hid ht
      clear hq hno ht
      go_enter Try.func35, Try.ntmps35
      go_wp2_with fail
      refine (implGramRight_any rs _ lo hi _ (HV.out.below HB.out hh) (by rw [HSZ.out]; omega)).mono ?_
      rintro _ w1 ⟨rfl, b1⟩
      rw [HQ.out]
      have B1 := HB.out.trans (b1.mono (by rw [HSZ.out]; omega))
      have HB1 := Lib.hid B1
      have z1 := B1.size
      clear b1 B1
      go_wp2_with fail
      refine (textRight_any t _ lo2 hi2 _ (HW.out.below HB1.out hh2) (by omega)).mono ?_
      rintro _ w2 ⟨rfl, b2⟩
      rw [HT.out]
      have HB2 := Lib.hid (HB1.out.trans (b2.mono (by omega)))
      clear b2
      go_wp2
      go_ret
      exact ⟨rfl, HB2.out⟩
    · have hhf : headB h = false := by rw [hq, ht] at hno; simpa using hno
      have HQ := Lib.hid hq
      have HT := Lib.hid ht
      have HH := Lib.hid hhf
      clear hq hno ht hhf
      go_enter Try.func35, Try.ntmps35
      go_wp2_with fail
      refine (implGramRight_any rs _ lo hi _ (HV.out.below HB.out hh) (by rw [HSZ.out]; omega)).mono ?_
      rintro _ w1 ⟨rfl, b1⟩
      rw [HQ.out]
      have B1 := HB.out.trans (b1.mono (by rw [HSZ.out]; omega))
      have HB1 := Lib.hid B1
      have z1 := B1.size
      clear b1 B1
      go_wp2_with fail
      refine (textRight_any t _ lo2 hi2 _ (HW.out.below HB1.out hh2) (by omega)).mono ?_
      rintro _ w2 ⟨rfl, b2⟩
      rw [HT.out]
      have B2 := HB1.out.trans (b2.mono (by omega))
      have HB2 := Lib.hid B2
      have z2 := B2.size
      clear b2 B2
      go_wp2_with fail
      refine (implIsHead_any _ _).mono ?_
      rintro _ w3 ⟨rfl, b3⟩
      rw [HH.out]
      have HB3 := Lib.hid (HB2.out.trans (b3.mono (by omega)))
      clear b3
      go_wp2
      go_ret
      exact ⟨rfl, HB3.out⟩
end Go.Proofs.Ytonfiahihmcmlaa

/- The model's table of what heads come to, as data: where a body may end; when nothing is left to be filled in, the table tells all. No program stands in this text. -/
namespace Go.Proofs.Ytonfiahihmcmlaa
open Go.RowKit

def hIx (hs : List ByteArray) (s : ByteArray) : Nat := hs.findIdx fun t => decide (t = s)
theorem hIx_lt {hs : List ByteArray} {s : ByteArray} (h : s ∈ hs) : hIx hs s < hs.length := List.findIdx_lt_length_of_exists ⟨s, h, by simp⟩
theorem hIx_at {hs : List ByteArray} {s : ByteArray} (h : s ∈ hs) : hs[hIx hs s]'(hIx_lt h) = s := by
  have := List.findIdx_getElem (w := hIx_lt h)
  exact of_decide_eq_true this
theorem hIx_first {hs : List ByteArray} {s : ByteArray} {k : Nat} (hk : k < hs.length) (e : hs[k] = s) (hn : ∀ j (h : j < hs.length), j < k → hs[j] ≠ s) : hIx hs s = k := by
  have h := hIx_lt (e ▸ List.getElem_mem hk)
  have h2 := hIx_at (e ▸ List.getElem_mem hk)
  rcases Nat.lt_trichotomy (hIx hs s) k with h3 | h3 | h3
  · exact absurd h2 (hn _ h h3)
  · exact h3
  · have := List.not_of_lt_findIdx h3
    simp [e] at this
theorem hIx_get {hs : List ByteArray} (hn : hs.Nodup) {i : Nat} (hi : i < hs.length) : hIx hs hs[i] = i :=
  hIx_first hi rfl fun j hj hl e => (List.pairwise_iff_getElem.1 hn) j i hj hi hl e
abbrev TabF := Nat → Nat → Bool
/-- by one symbol more, from places of which P holds -/
def stepP (T : TabF) (hs t : List ByteArray) (s : ByteArray) (P : Nat → Prop) (e : Nat) : Prop :=
  e ≤ t.length ∧ ∃ k, k ≤ t.length ∧ P k ∧ ((s ∈ hs ∧ k ≤ e ∧ T (hIx hs s) (13 * k + e) = true) ∨ (s ∉ hs ∧ t[k]? = some s ∧ e = k + 1))
def endP (T : TabF) (hs t : List ByteArray) (body : List ByteArray) (P : Nat → Prop) : Nat → Prop := body.foldl (fun P s => stepP T hs t s P) P
theorem endP_snoc {T : TabF} {hs t body : List ByteArray} {s : ByteArray} {P : Nat → Prop} : endP T hs t (body ++ [s]) P = stepP T hs t s (endP T hs t body P) := by unfold endP; rw [List.foldl_append]; rfl
theorem endP_take {T : TabF} {hs t body : List ByteArray} {P : Nat → Prop} {j : Nat} (h : j < body.length) : endP T hs t (body.take (j + 1)) P = stepP T hs t body[j] (endP T hs t (body.take j) P) := by rw [List.take_succ_eq_append_getElem h, endP_snoc]
/-- all that the table tells is so -/
def TSound (rs : List RuleD) (t : List ByteArray) (T : TabF) : Prop := ∀ i (h : i < (hsOf rs).length) k e, k ≤ t.length → e ≤ t.length → T i (13 * k + e) = true → Der (· ∈ rs) t [(hsOf rs)[i]] k e
/-- nothing is left to be filled in -/
def TClosed (rs : List RuleD) (t : List ByteArray) (T : TabF) : Prop := ∀ i (h : i < rs.length) k e, k ≤ t.length → e ≤ t.length → endP T (hsOf rs) t rs[i].body (· = k) e → T (hIx (hsOf rs) rs[i].head) (13 * k + e) = true
section
variable {rs : List RuleD} {t : List ByteArray} {T : TabF}
theorem TSound.ends (S : TSound rs t T) {i : Nat} : ∀ (body : List ByteArray) (e : Nat), endP T (hsOf rs) t body (· = i) e → Der (· ∈ rs) t body i e := by
  intro body
  have key : ∀ (r : List ByteArray) (e : Nat), endP T (hsOf rs) t r.reverse (· = i) e → Der (· ∈ rs) t r.reverse i e := by
    intro r
    induction r with
    | nil => rintro e rfl; exact .nil _
    | cons s r ih =>
      intro e h
      rw [List.reverse_cons] at h ⊢
      rw [endP_snoc] at h
      obtain ⟨he, k, hk, hP, h⟩ := h
      have d := ih k hP
      rcases h with ⟨hm, _, ht⟩ | ⟨_, ht, rfl⟩
      · have := S _ (hIx_lt hm) k e hk he ht
        rw [hIx_at hm] at this
        exact d.append this
      · exact d.snoc_tok ht
  have := key body.reverse
  rwa [List.reverse_reverse] at this
theorem TClosed.walk (C : TClosed rs t T) (hh : ∀ s ∈ t, s ∉ hsOf rs) {l : List ByteArray} {i k : Nat} (d : Der (· ∈ rs) t l i k) : ∀ P : Nat → Prop, P i → i ≤ t.length → endP T (hsOf rs) t l P k := by
  induction d with
  | nil => exact fun P h _ => h
  | @tok s l i k h _ ih =>
    intro P hP hi
    have hl := (List.getElem?_eq_some_iff.1 h).1
    show endP T (hsOf rs) t l (stepP T (hsOf rs) t s P) k
    exact ih _ ⟨by omega, i, hi, hP, .inr ⟨hh s (List.mem_of_getElem? h), h, rfl⟩⟩ (by omega)
  | @head r l i j k hr d1 d2 ih1 ih2 =>
    intro P hP hi
    have hj := d1.end hi
    obtain ⟨q, hq, rfl⟩ := List.getElem_of_mem hr
    have hT := C q hq i j hi hj (ih1 _ rfl hi)
    show endP T (hsOf rs) t l (stepP T (hsOf rs) t rs[q].head P) k
    exact ih2 _ ⟨hj, i, hi, hP, .inl ⟨hs_all hq, d1.le, hT⟩⟩ hj
/-- the table tells just what is come to -/
theorem tab_tells (S : TSound rs t T) (C : TClosed rs t T) (hh : ∀ s ∈ t, s ∉ hsOf rs) {i : Nat} (hi : i < (hsOf rs).length) {k e : Nat} (hk : k ≤ t.length) (he : e ≤ t.length) : T i (13 * k + e) = true ↔ Der (· ∈ rs) t [(hsOf rs)[i]] k e := by
  constructor
  · exact S i hi k e hk he
  · intro d
    obtain ⟨r, hr, hrh, d2⟩ := d.head_inv fun s hs e => hh s (List.mem_of_getElem? hs) (e ▸ List.getElem_mem hi)
    obtain ⟨q, hq, rfl⟩ := List.getElem_of_mem hr
    have := C q hq k e hk he (C.walk hh d2 _ rfl hk)
    rw [hrh, hIx_get (show (hsOf rs).Nodup from headsTo_nodup rs _) hi] at this
    exact this
theorem ends_tells (S : TSound rs t T) (C : TClosed rs t T) (hh : ∀ s ∈ t, s ∉ hsOf rs) {l : List ByteArray} {i k : Nat} (hi : i ≤ t.length) : endP T (hsOf rs) t l (· = i) k ↔ Der (· ∈ rs) t l i k :=
  ⟨fun h => S.ends l k h, fun d => C.walk hh d _ rfl hi⟩
end
theorem tok_no_head {rs : List RuleD} {t : List ByteArray} (R : Rt rs) (ht : ∀ s ∈ t, tokB s = true) : ∀ s ∈ t, s ∉ hsOf rs := fun s hs hm => by
  have := ht s hs
  rw [head_no_tok (R.hs_head hm)] at this
  cases this
/-- one place is filled in -/
def setT (T : TabF) (i q : Nat) : TabF := fun a b => if a = i ∧ b = q then true else T a b
/-- how many places are left -/
def emptyAt (f : Nat → Bool) : Nat → Nat
  | 0 => 0
  | n + 1 => emptyAt f n + if f n = true then 0 else 1
def emptyIn (T : TabF) : Nat → Nat
  | 0 => 0
  | n + 1 => emptyIn T n + emptyAt (T n) 169
theorem emptyAt_same {f g : Nat → Bool} {n : Nat} (h : ∀ q, q < n → f q = g q) : emptyAt f n = emptyAt g n := by
  induction n with
  | zero => rfl
  | succ n ih => unfold emptyAt; rw [ih fun q hq => h q (by omega), h n (by omega)]
theorem emptyAt_less {f g : Nat → Bool} {n q : Nat} (hq : q < n) (hf : f q = false) (hg : g q = true) (h : ∀ p, p ≠ q → g p = f p) : emptyAt g n + 1 = emptyAt f n := by
  induction n with
  | zero => omega
  | succ n ih =>
    by_cases e : q = n
    · subst e
      unfold emptyAt
      rw [hf, hg, emptyAt_same (f := g) (g := f) fun p hp => h p (by omega)]
      simp
    · unfold emptyAt
      have := ih (by omega)
      rw [h n (fun e' => e e'.symm)]
      omega
theorem setT_same (T : TabF) (i q : Nat) : setT T i q i q = true := by simp [setT]
theorem setT_row {T : TabF} {i q a : Nat} (h : a ≠ i) : setT T i q a = T a := by funext b; simp [setT, h]
theorem setT_cell {T : TabF} {i q b : Nat} (h : b ≠ q) : setT T i q i b = T i b := by simp [setT, h]
theorem emptyIn_same {T U : TabF} {n : Nat} (h : ∀ i, i < n → U i = T i) : emptyIn U n = emptyIn T n := by
  induction n with
  | zero => rfl
  | succ n ih => unfold emptyIn; rw [ih fun i hi => h i (by omega), h n (by omega)]
theorem emptyIn_less {T : TabF} {i q n : Nat} (hi : i < n) (hq : q < 169) (hf : T i q = false) : emptyIn (setT T i q) n + 1 = emptyIn T n := by
  induction n with
  | zero => omega
  | succ n ih =>
    by_cases e : i = n
    · subst e
      unfold emptyIn
      have h1 : emptyIn (setT T i q) i = emptyIn T i := emptyIn_same fun a ha => setT_row (by omega)
      rw [h1]
      have := emptyAt_less (f := T i) (g := setT T i q i) hq hf (setT_same T i q) fun p hp => setT_cell hp
      omega
    · unfold emptyIn
      rw [setT_row (a := n) (fun h => e h.symm)]
      have := ih (by omega)
      omega
theorem setT_mono {T : TabF} {i q a b : Nat} (h : T a b = true) : setT T i q a b = true := by unfold setT; split <;> simp [h]
theorem TSound.set {rs : List RuleD} {t : List ByteArray} {T : TabF} (S : TSound rs t T) {i k e : Nat} (hk : k ≤ t.length) (he : e ≤ t.length) (h12 : t.length ≤ 12) (hd : ∀ h : i < (hsOf rs).length, Der (· ∈ rs) t [(hsOf rs)[i]] k e) : TSound rs t (setT T i (13 * k + e)) := by
  intro a ha k' e' hk' he' h
  unfold setT at h
  split at h
  · rename_i hh
    obtain ⟨rfl, h2⟩ := hh
    obtain rfl : k' = k := by omega
    obtain rfl : e' = e := by omega
    exact hd ha
  · exact S a ha k' e' hk' he' h
end Go.Proofs.Ytonfiahihmcmlaa
