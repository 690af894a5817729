import Derived.Test.YtmhdbjoljonhdaaJWder
/- The program's Viable. -/
namespace Go.Proofs.Ytmhdbjoljonhdaa
open Go.RowKit Go.Maps Go.Conc

open Classical in
/-- the last place up to n of which that holds, or -1 -/
noncomputable def lastB (p : Nat → Prop) : Nat → Int
  | 0 => if p 0 then 0 else -1
  | n + 1 => if p (n + 1) then ((n + 1 : Nat) : Int) else lastB p n
theorem lastB_none {p : Nat → Prop} {n : Nat} (h : ∀ m, m ≤ n → ¬ p m) : lastB p n = -1 := by
  induction n with
  | zero => unfold lastB; rw [if_neg (h 0 (Nat.le_refl _))]
  | succ n ih => unfold lastB; rw [if_neg (h _ (Nat.le_refl _))]; exact ih fun m hm => h m (by omega)
theorem lastB_some {p : Nat → Prop} {n m : Nat} (hm : m ≤ n) (h : p m) (hl : ∀ k, m < k → k ≤ n → ¬ p k) : lastB p n = (m : Int) := by
  induction n with
  | zero =>
    obtain rfl : m = 0 := by omega
    unfold lastB; rw [if_pos h]; rfl
  | succ n ih =>
    by_cases e : m = n + 1
    · subst e; unfold lastB; rw [if_pos h]
    · unfold lastB; rw [if_neg (hl _ (by omega) (Nat.le_refl _))]
      exact ih (by omega) fun k h1 h2 => hl k h1 (by omega)
/-- so much of the text may be the beginning of what the start comes to -/
def BegP (rs : List RuleD) (t : List ByteArray) (m : Nat) : Prop := Beg (· ∈ frs rs) t m (ruleAt rs 0).head 0
noncomputable def viaZ (rs : List RuleD) (t : List ByteArray) : Int := if (gramB rs && textB t) = true then lastB (BegP rs t) t.length else -1
theorem viaZ_no {rs : List RuleD} {t : List ByteArray} (h : (gramB rs && textB t) = false) : viaZ rs t = -1 := by unfold viaZ; rw [h]; rfl
theorem viaZ_yes {rs : List RuleD} {t : List ByteArray} (h1 : gramB rs = true) (h2 : textB t = true) : viaZ rs t = lastB (BegP rs t) t.length := by unfold viaZ; rw [h1, h2]; rfl
/-- how far the looks that were told so far have come -/
structure Far (S : St) (left : Lit → Bool) (z : Int) : Prop where
  lo : -1 ≤ z
  hi : z ≤ 12
  all : ∀ l ∈ S.known, left (lookK l) = false → (l.at' : Int) ≤ z
  one : z = -1 ∨ ∃ l ∈ S.known, z = (l.at' : Int)
theorem Far.end {rs : List RuleD} {t : List ByteArray} {S : St} {left : Lit → Bool} {z : Int} (h : Far S left z) (hl : ∀ kl, left kl = false) (F : Fits (frs rs) t) (hst : Started rs t S) : z = lastB (BegP rs t) t.length := by
  have he := hst.ends F
  have hfit : ∀ l ∈ S.known, l.at' ≤ t.length := fun l hl => (hst.1.inv.sound l hl).fit
  rcases h.one with rfl | ⟨l, hm, rfl⟩
  · rw [lastB_none]
    intro m _ b
    obtain ⟨l, hm, _⟩ := (he m).2 b
    have := h.all l hm (hl _)
    omega
  · rw [lastB_some (hfit l hm) ((he _).1 ⟨l, hm, rfl⟩)]
    intro k h1 _ b
    obtain ⟨l', hm', rfl⟩ := (he k).2 b
    have := h.all l' hm' (hl _)
    omega
theorem Far.next {S : St} {left : Lit → Bool} {z : Int} (h : Far S left z) (hok : ∀ l ∈ S.known, l.ok) {l : Look} (hl : l ∈ S.known) (h12 : l.at' ≤ 12) {z' : Int} (h1 : z ≤ z') (h2 : (l.at' : Int) ≤ z') (h3 : z' = z ∨ z' = (l.at' : Int)) : Far S (fun q => left q && !q.sameKey (lookK l)) z' := by
  have a := h.lo
  have b := h.hi
  refine ⟨by omega, by omega, fun l' hm hf => ?_, ?_⟩
  · rw [Bool.and_eq_false_iff] at hf
    rcases hf with hf | hf
    · have := h.all l' hm hf; omega
    · have hk : lookK l' = lookK l := by
        unfold lookK at hf ⊢
        simpa [Lit.sameKey] using hf
      obtain rfl := lookK_inj (hok l' hm) (hok l hl) hk
      exact h2
  · rcases h3 with rfl | rfl
    · exact h.one
    · exact .inr ⟨l, hl, rfl⟩
theorem key_known {S : St} {D : DataW Unit} (hat : ∀ l, WideAt.IsKeyLit l → ∀ z, D.atKey l z = (memF (S.known.map lookK) l).getD z) (hok : ∀ l ∈ S.known, l.ok) {x : Value} {kl : Lit} (hk : keyOf Try.prog 101 x = some kl) {y : DataW Unit} (hy : ∀ zd, D.atKey kl zd = y) : ∃ l ∈ S.known, x = lookV l ∧ kl = lookK l := by
  have h1 : kl ∈ S.known.map lookK := by
    refine Classical.byContradiction fun hn => ?_
    have e1 := (hat kl (kLook.key hk) (.lit (.bool true))).symm.trans (hy _)
    have e2 := (hat kl (kLook.key hk) (.lit (.bool false))).symm.trans (hy _)
    rw [memF_out hn] at e1 e2
    have := e1.trans e2.symm
    simp at this
  obtain ⟨l, hl, rfl⟩ := List.mem_map.1 h1
  exact ⟨l, hl, kLook.inj hk (keyLook (hok l hl)), rfl⟩
theorem invVal : ∀ (key : Value) (kl : Lit), keyOf Try.prog 101 key = some kl → ∃ x : Value, key = id x := fun key _ _ => ⟨key, rfl⟩
theorem invBool : ∀ (v : Value) (y : DataW Unit × List MemPlace), boolE v = some y → ∃ c : Value, v = id c := fun v _ _ => ⟨v, rfl⟩

set_option maxRecDepth 100000 in
set_option maxHeartbeats 4000000 in
theorem implViable_any (rs : List RuleD) (t : List ByteArray) (v tv : Value) (lo hi lo2 hi2 : Nat) (w : World) (h : Rules w lo hi v rs) (hh : hi ≤ w.heap.size) (h2 : Strs w lo2 hi2 tv t) (hh2 : hi2 ≤ w.heap.size) :
    Calls Try.prog 32 #[.agg #[v], tv] w fun e w' => e = .returned (.int .i64 (viaZ rs t)) ∧ Below w.heap.size w w' := by
  have HV := Lib.hid h
  have HW := Lib.hid h2
  obtain ⟨A, c, rfl, -⟩ := h
  obtain ⟨B, d, rfl, -⟩ := h2
  have hb := al1 w (.cells #[.slice A rs.length c] 25)
  have HB := Lib.hid hb
  have hsz : (w.alloc (.cells #[.slice A rs.length c] 25)).heap.size = w.heap.size + 1 := by simp
  have HSZ := Lib.hid hsz
  clear hb hsz
  cases hq : (gramB rs && textB t)
  · have HQ := Lib.hid hq
    have HD := Lib.hid (viaZ_no hq)
    clear hq
    go_enter Try.func32, Try.ntmps32
    go_wp2_with fail
    refine (searchStart_no rs t _ _ lo hi lo2 hi2 _ (HV.out.below HB.out hh) (by rw [HSZ.out]; omega) (HW.out.below HB.out hh2) (by rw [HSZ.out]; omega) HQ.out).mono ?_
    rintro _ w1 ⟨rfl, b1⟩
    have B1 := (HB.out.trans (b1.mono (by rw [HSZ.out]; omega)))
    have B2 := B1.trans ((al1 w1 (.cells #[.slice none 0 0, .slice none 0 0, .map none, .map none, .map none, .chan none] 95)).mono B1.size)
    have HB2 := Lib.hid B2
    clear b1 B1 B2
    go_wp2
    go_ret
    exact ⟨by rw [HD.out]; rfl, HB2.out⟩
  · have hg : gramB rs = true := by revert hq; cases gramB rs <;> simp
    have ht : textB t = true := by revert hq; cases textB t <;> simp
    have h12 := ((textB_iff t).1 ht).1
    have HFT := Lib.hid (frs_fits hg ht)
    have HG := Lib.hid hg
    have HT := Lib.hid ht
    clear hq hg ht
    go_enter Try.func32, Try.ntmps32
    go_wp2_with fail
    refine (searchStart_yes rs t _ _ lo hi lo2 hi2 _ (HV.out.below HB.out hh) (by rw [HSZ.out]; omega) (HW.out.below HB.out hh2) (by rw [HSZ.out]; omega) HG.out HT.out).mono ?_
    rintro _ w1 ⟨E, M, S, rfl, s1, hst, hE, b1⟩
    have B1 := (HB.out.trans (b1.mono (by rw [HSZ.out]; omega)))
    have hA := al1 w1 (.cells #[.slice E.A (frs rs).length E.c, .slice E.B t.length E.d, .map (some E.bk), .map (some E.bf), .map (some E.bw), .chan (some E.bq)] 95)
    have B2 := B1.trans (hA.mono B1.size)
    have s2 := s1.below hA
    have hok : ∀ l ∈ S.known, l.ok := fun l hl => (hst.1.inv.sound l hl).ok HFT.out
    have hfit : ∀ l ∈ S.known, l.at' ≤ 12 := fun l hl => by have := (hst.1.inv.sound l hl).fit; omega
    obtain ⟨D, hown, hat⟩ := s2.known
    have hz2 := B2.size
    have HB2 := Lib.hid B2
    have HAT := Lib.hid hat
    have HOWN := Lib.hid hown
    have HST := Lib.hid hst
    have HOK := Lib.hid hok
    have HFIT := Lib.hid hfit
    have hbk : w.heap.size ≤ E.bk := by have := s1.low.1; have := HSZ.out; omega
    clear s1 s2 hst b1 B1 B2 hA hok hfit hat hown
    unfold Env.v
    go_wp2_with (at_range; refine wpList_range_own _ rfl _ 90 rfl 101 4 kLook Try.underlying90 _ E.bk _ _ rfl HOWN.out ?_; intro w0 hrg0 hg0 hs0)
    go_frame
    have bel0 : Below w.heap.size w w0 := HB2.out.grown hg0 (by omega) (fun k hk => by cases hk)
    have hbr : E.bk < (w1.alloc (.cells #[.slice E.A (frs rs).length E.c, .slice E.B t.length E.d, .map (some E.bk), .map (some E.bf), .map (some E.bw), .chan (some E.bq)] 95)).heap.size := HOWN.out.lt
    generalize hrr : (w1.alloc (.cells #[.slice E.A (frs rs).length E.c, .slice E.B t.length E.d, .map (some E.bk), .map (some E.bf), .map (some E.bw), .chan (some E.bq)] 95)).heap.size = r at *
    clear hg0 hs0 hrr
    have hwr0 : w.heap.size ≤ r := by omega
    go_loopw [7, 8] (fun x _ wr => ∃ (left : Lit → Bool) (cnt : Nat) (z : Int), wr.ranges Try.prog 101 boolE E.bk r S.known.length D left cnt ∧ x = .int .i64 z ∧ Far S left z ∧ Below w.heap.size w wr) (fun _ _ wr => wr.rangeLeft E.bk r)
    case atStart =>
      refine ⟨_, _, -1, hrg0, rfl, ⟨by omega, by omega, fun l hl hf => ?_, .inl rfl⟩, bel0⟩
      have hhas : has D (lookK l) = true := has_true_of_atKey (y := .lit (.bool true)) fun z => by rw [HAT.out (lookK l) (kLook.key (keyLook (HOK.out l hl))), memF_in (List.mem_map.2 ⟨l, hl, rfl⟩)]; rfl
      rw [hhas] at hf
      cases hf
    case round =>
      obtain ⟨left, cnt, z, hrg, rfl, hfar, hbw⟩ := hrel
      rename World => wr
      have HRG := Lib.hid hrg
      have HFAR := Lib.hid hfar
      have hsw := hbw.size
      have zlo := hfar.lo
      have zhi := hfar.hi
      clear hrg hfar hrg0 bel0
      go_wp2_with (at_next; refine wpList_next_ranges _ rfl _ rfl 101 kLook boolE (id : Value → Value) (id : Value → Value) invVal invBool E.bk r S.known.length D left cnt rfl HRG.out ?_ ?_)
      · intro _ hl0
        have HE := Lib.hid (HFAR.out.end hl0 HFT.out HST.out)
        go_wp2
        go_ret
        refine ⟨?_, hbw⟩
        rw [viaZ_yes HG.out HT.out, ← HE.out]
        rfl
      · intro x cb kl y ps w2 cnt1 hkx hlk hvc hat hrg1 hlt1 hg1 hs1 hen
        obtain ⟨l, hl, hx, hkl⟩ := key_known HAT.out HOK.out hkx hat
        (try simp only [id] at hx)
        subst hx
        have h12l := HFIT.out l hl
        have HL := Lib.hid hl
        have HG1 := Lib.hid hg1
        have HR1 := Lib.hid hrg1
        have HKL := Lib.hid hkl
        have hb2 : Below w.heap.size w w2 := hbw.grown hg1 hsw (fun k hk => by injection hk with hk; omega)
        have hrA : (w2.alloc (.cells #[.int .i64 (l.rule : Int), .int .i64 (l.done : Int), .int .i64 (l.fr : Int), .int .i64 (l.at' : Int)] 101)).ranges Try.prog 101 boolE E.bk r S.known.length D (fun q => left q && !q.sameKey kl) cnt1 := hrg1.kept (row := none) (World.grownBy_alloc w2 _ none) (by simp) (by simp)
        have HRA := Lib.hid hrA
        have HBA := Lib.hid (hb2.trans ((al1 w2 (.cells #[.int .i64 (l.rule : Int), .int .i64 (l.done : Int), .int .i64 (l.fr : Int), .int .i64 (l.at' : Int)] 101)).mono hb2.size))
        clear hat hkx hlk hvc hg1 hs1 hrg1 hl hkl hb2 hrA
        (try simp only [id] at hen)
        unfold lookV at hen ⊢
        (try simp only [id])
        have hfn := HFAR.out.next HOK.out HL.out h12l (z' := max z (l.at' : Int)) (by omega) (by omega) (by omega)
        rw [← HKL.out] at hfn
        have HFN := Lib.hid hfn
        clear hfn
        go_wp2
        exact ⟨⟨_, cnt1, _, HRA.out, rfl, HFN.out, HBA.out⟩, by rw [HRA.out.left_eq, HRG.out.left_eq]; exact hlt1⟩
end Go.Proofs.Ytmhdbjoljonhdaa

/- The program's Spans. -/
namespace Go.Proofs.Ytmhdbjoljonhdaa
open Go.RowKit Go.Maps Go.Conc

/-- the head comes to the tokens of that number -/
def SpanP (rs : List RuleD) (t : List ByteArray) (h : ByteArray) (q : Nat) : Prop := q / 13 ≤ t.length ∧ q % 13 ≤ t.length ∧ Der (· ∈ rs) t [h] (q / 13) (q % 13)
open Classical in
noncomputable def spanTo (rs : List RuleD) (t : List ByteArray) (h : ByteArray) (q : Nat) : List Int := ((List.range q).filter fun q => decide (SpanP rs t h q)).map fun (q : Nat) => (q : Int)
noncomputable def spansOf (rs : List RuleD) (t : List ByteArray) (h : ByteArray) : List Int := if (gramB rs && textB t && headB h) = true then spanTo rs t h 169 else []
section
variable {rs : List RuleD} {t : List ByteArray} {h : ByteArray}
theorem spanTo_t {q : Nat} (hp : SpanP rs t h q) : spanTo rs t h (q + 1) = spanTo rs t h q ++ [(q : Int)] := by unfold spanTo; rw [List.range_succ, List.filter_append, List.map_append]; simp [hp]
theorem spanTo_f {q : Nat} (hp : ¬ SpanP rs t h q) : spanTo rs t h (q + 1) = spanTo rs t h q := by unfold spanTo; rw [List.range_succ, List.filter_append, List.map_append]; simp [hp]
theorem spanTo_skip {a b : Nat} (hab : a ≤ b) (hn : ∀ q, a ≤ q → q < b → ¬ SpanP rs t h q) : spanTo rs t h b = spanTo rs t h a := by
  induction b with
  | zero => obtain rfl : a = 0 := by omega
            rfl
  | succ b ih =>
    by_cases e : a = b + 1
    · subst e; rfl
    · rw [spanTo_f (hn b (by omega) (by omega))]
      exact ih (by omega) fun q h1 h2 => hn q h1 (by omega)
theorem spanTo_len (q : Nat) : (spanTo rs t h q).length ≤ q := by
  unfold spanTo
  rw [List.length_map]
  refine Nat.le_trans (List.length_filter_le _ _) ?_
  rw [List.length_range]; exact Nat.le_refl _
theorem spansOf_len : (spansOf rs t h).length ≤ 1000 := by
  unfold spansOf
  split
  · have := spanTo_len (rs := rs) (t := t) (h := h) 169; omega
  · simp
theorem SpanP.at {i k : Nat} (hk : k ≤ 12) : SpanP rs t h (13 * i + k) ↔ i ≤ t.length ∧ k ≤ t.length ∧ Der (· ∈ rs) t [h] i k := by
  unfold SpanP
  rw [show (13 * i + k) / 13 = i by omega, show (13 * i + k) % 13 = k by omega]
theorem spanTo_next {i : Nat} (h12 : t.length ≤ 12) (hi : i ≤ t.length) : spanTo rs t h (13 * (i + 1) + (i + 1)) = spanTo rs t h (13 * i + (t.length + 1)) := by
  apply spanTo_skip (by omega)
  intro q h1 h2 hp
  obtain ⟨p1, p2, p3⟩ := hp
  have := p3.le
  omega
theorem spanTo_last (h12 : t.length ≤ 12) : spanTo rs t h 169 = spanTo rs t h (13 * (t.length + 1) + 0) := by
  apply spanTo_skip (by omega)
  intro q h1 h2 hp
  obtain ⟨p1, p2, p3⟩ := hp
  omega
theorem spanTo_zero : spanTo rs t h 0 = [] := rfl
end
/-- all places were asked for -/
def askTo (rs : List RuleD) (h : ByteArray) : Nat → St
  | 0 => St.none
  | n + 1 => askS rs (askTo rs h n) h n
theorem askTo_inv {rs : List RuleD} {t : List ByteArray} {h : ByteArray} {n : Nat} (hn : n ≤ t.length + 1) : Inv rs t (askTo rs h n) := by
  induction n with
  | zero => exact Inv.none
  | succ n ih => exact (ih (by omega)).ask (by omega)
theorem askTo_rc (rs : List RuleD) (h : ByteArray) (n : Nat) : (askTo rs h n).rc = 0 := by
  induction n with
  | zero => rfl
  | succ n ih => exact (putAll_rest _ _).1.trans ih
theorem askTo_done {rs : List RuleD} {t : List ByteArray} {h : ByteArray} (n : Nat) : Done rs t (askTo rs h n) 0 := by
  induction n with
  | zero => exact Done.none
  | succ n ih => exact Done.asked _ _ _ ih
theorem askTo_mem {rs : List RuleD} {h : ByteArray} {n i : Nat} (hi : i < n) : ∀ l ∈ asks rs h i, l ∈ (askTo rs h n).known := by
  induction n with
  | zero => omega
  | succ n ih =>
    intro l hl
    show l ∈ (putAll _ _).known
    rw [putAll_mem]
    by_cases e : i = n
    · subst e; exact .inr hl
    · exact .inl (ih (by omega) l hl)
/-- a search for a head at every place, that has come to its end -/
theorem span_found {rs : List RuleD} {t : List ByteArray} {h : ByteArray} {S : St} (F : Fits (frs rs) t) (hb : headB h = true) (hr : Runs (frs rs) t (askTo (frs rs) h (t.length + 1)) S) (he : S.rc = S.known.length) {i : Nat} (hi : i ≤ t.length) (k : Nat) : (h, i, k) ∈ S.found ↔ Der (· ∈ rs) t [h] i k := by
  have D : Done (frs rs) t (askTo (frs rs) h (t.length + 1)) (askTo (frs rs) h (t.length + 1)).rc := by rw [askTo_rc]; exact askTo_done _
  exact ((hr.fin F.head (askTo_inv (Nat.le_refl _)) D he).found F.head F.tok hb (askTo_mem (by omega)) k).trans (der_frs F.tok)

set_option maxRecDepth 100000 in
set_option maxHeartbeats 4000000 in
theorem implSpans_no (rs : List RuleD) (t : List ByteArray) (h : ByteArray) (v tv : Value) (lo hi lo2 hi2 : Nat) (w : World) (hv : Rules w lo hi v rs) (hh : hi ≤ w.heap.size) (h2 : Strs w lo2 hi2 tv t) (hh2 : hi2 ≤ w.heap.size) (hno : (gramB rs && textB t && headB h) = false) :
    Calls Try.prog 35 #[.agg #[v], tv, .string h] w fun e w' => e = .returned (.slice none 0 0) ∧ Below w.heap.size w w' := by
  have HV := Lib.hid hv
  have HW := Lib.hid h2
  obtain ⟨A, c, rfl, -⟩ := hv
  obtain ⟨B, d, rfl, -⟩ := h2
  have hb := al1 w (.cells #[.slice A rs.length c] 25)
  have HB := Lib.hid hb
  have hsz : (w.alloc (.cells #[.slice A rs.length c] 25)).heap.size = w.heap.size + 1 := by simp
  have HSZ := Lib.hid hsz
  clear hb hsz
  cases hq : gramB rs
  · have HQ := Lib.hid hq
    clear hq hno
    go_enter Try.func35, Try.ntmps35
    go_wp2_with fail
    refine (implGramRight_any rs _ lo hi _ (HV.out.below HB.out hh) (by rw [HSZ.out]; omega)).mono ?_
    rintro _ w1 ⟨rfl, b1⟩
    rw [HQ.out]
    have HB1 := Lib.hid (HB.out.trans (b1.mono (by rw [HSZ.out]; omega)))
    clear b1
    go_wp2
    go_ret
    exact ⟨rfl, HB1.out⟩
  · cases ht : textB t
    · have HQ := Lib.hid hq
      have HT := Lib.hid ht
      clear hq hno ht
      go_enter Try.func35, Try.ntmps35
      go_wp2_with fail
      refine (implGramRight_any rs _ lo hi _ (HV.out.below HB.out hh) (by rw [HSZ.out]; omega)).mono ?_
      rintro _ w1 ⟨rfl, b1⟩
      rw [HQ.out]
      have B1 := HB.out.trans (b1.mono (by rw [HSZ.out]; omega))
      have HB1 := Lib.hid B1
      have z1 := B1.size
      clear b1 B1
      go_wp2_with fail
      refine (textRight_any t _ lo2 hi2 _ (HW.out.below HB1.out hh2) (by omega)).mono ?_
      rintro _ w2 ⟨rfl, b2⟩
      rw [HT.out]
      have HB2 := Lib.hid (HB1.out.trans (b2.mono (by omega)))
      clear b2
      go_wp2
      go_ret
      exact ⟨rfl, HB2.out⟩
    · have hhf : headB h = false := by rw [hq, ht] at hno; simpa using hno
      have HQ := Lib.hid hq
      have HT := Lib.hid ht
      have HH := Lib.hid hhf
      clear hq hno ht hhf
      go_enter Try.func35, Try.ntmps35
      go_wp2_with fail
      refine (implGramRight_any rs _ lo hi _ (HV.out.below HB.out hh) (by rw [HSZ.out]; omega)).mono ?_
      rintro _ w1 ⟨rfl, b1⟩
      rw [HQ.out]
      have B1 := HB.out.trans (b1.mono (by rw [HSZ.out]; omega))
      have HB1 := Lib.hid B1
      have z1 := B1.size
      clear b1 B1
      go_wp2_with fail
      refine (textRight_any t _ lo2 hi2 _ (HW.out.below HB1.out hh2) (by omega)).mono ?_
      rintro _ w2 ⟨rfl, b2⟩
      rw [HT.out]
      have B2 := HB1.out.trans (b2.mono (by omega))
      have HB2 := Lib.hid B2
      have z2 := B2.size
      clear b2 B2
      go_wp2_with fail
      refine (implIsHead_any _ _).mono ?_
      rintro _ w3 ⟨rfl, b3⟩
      rw [HH.out]
      have HB3 := Lib.hid (HB2.out.trans (b3.mono (by omega)))
      clear b3
      go_wp2
      go_ret
      exact ⟨rfl, HB3.out⟩
end Go.Proofs.Ytmhdbjoljonhdaa

/- The program's Spans, whole. -/
namespace Go.Proofs.Ytmhdbjoljonhdaa
open Go.RowKit Go.Maps Go.Conc

theorem spanTo_end {rs : List RuleD} {t : List ByteArray} {h : ByteArray} (h12 : t.length ≤ 12) : spanTo rs t h (13 * (t.length + 1) + (t.length + 1)) = spanTo rs t h 169 := by
  rw [spanTo_next h12 (Nat.le_refl _)]
  symm
  apply spanTo_skip (by omega)
  intro q h1 h2 hp
  obtain ⟨p1, p2, p3⟩ := hp
  have := p3.le
  omega
theorem ask_int (E : Env) (rs : List RuleD) (t : List ByteArray) (M : List WtM) (S : St) (h : ByteArray) (i : Nat) (w : World) (s : Sea w E rs t M S) (hi : i ≤ t.length) :
    Calls Try.prog 80 #[.agg #[.slice E.A rs.length E.c, .slice E.B t.length E.d, .map (some E.bk), .map (some E.bf), .map (some E.bw), .chan (some E.bq)], .agg #[.string h, .int .i64 (i : Int)]] w fun e w' => e = .returned (.tuple #[]) ∧ Sea w' E rs t M (askS rs S h i) ∧ Turn (E.T M) w w' := ask_any E rs t M S h i w s hi

set_option maxRecDepth 100000 in
set_option maxHeartbeats 8000000 in
theorem implSpans_yes (rs : List RuleD) (t : List ByteArray) (h : ByteArray) (v tv : Value) (lo hi lo2 hi2 : Nat) (w : World) (hv : Rules w lo hi v rs) (hh : hi ≤ w.heap.size) (h2 : Strs w lo2 hi2 tv t) (hh2 : hi2 ≤ w.heap.size) (hg : gramB rs = true) (ht : textB t = true) (hhd : headB h = true) :
    Calls Try.prog 35 #[.agg #[v], tv, .string h] w (MadeI w (spanTo rs t h 169)) := by
  obtain ⟨j0, hj0, hy0, hy1, hy2⟩ := info_parts Try.infoI64
  have HV := Lib.hid hv
  have HW := Lib.hid h2
  have h12 := ((textB_iff t).1 ht).1
  have hz4 := headB_size hhd
  obtain ⟨A, c, rfl, -⟩ := hv
  obtain ⟨B, d, rfl, -⟩ := h2
  have hb := al1 w (.cells #[.slice A rs.length c] 25)
  have R0 := Row.made w 25 #[.slice A rs.length c]
  have HR0 := Lib.hid R0
  have HB := Lib.hid hb
  have hsz : (w.alloc (.cells #[.slice A rs.length c] 25)).heap.size = w.heap.size + 1 := by simp
  have HSZ := Lib.hid hsz
  have HFT := Lib.hid (frs_fits hg ht)
  have HQ := Lib.hid hg
  have HT := Lib.hid ht
  have HH := Lib.hid hhd
  clear hb hsz hg ht hhd R0
  go_enter Try.func35, Try.ntmps35
  go_wp2_with fail
  refine (implGramRight_any rs _ lo hi _ (HV.out.below HB.out hh) (by rw [HSZ.out]; omega)).mono ?_
  rintro _ w1 ⟨rfl, b1⟩
  rw [HQ.out]
  have B1 := HB.out.trans (b1.mono (by rw [HSZ.out]; omega))
  have r1 := HR0.out.below b1 HR0.out.lt
  have HR1 := Lib.hid r1
  have HB1 := Lib.hid B1
  have z1 := B1.size
  clear b1 B1 r1
  go_wp2_with fail
  refine (textRight_any t _ lo2 hi2 _ (HW.out.below HB1.out hh2) (by omega)).mono ?_
  rintro _ w2 ⟨rfl, b2⟩
  rw [HT.out]
  have B2 := HB1.out.trans (b2.mono (by omega))
  have r2 := HR1.out.below b2 HR1.out.lt
  have HR2 := Lib.hid r2
  have HB2 := Lib.hid B2
  have z2 := B2.size
  clear b2 B2 r2
  go_wp2_with fail
  refine (implIsHead_any _ _).mono ?_
  rintro _ w3 ⟨rfl, b3⟩
  rw [HH.out]
  have B3 := HB2.out.trans (b3.mono (by omega))
  have r3 := HR2.out.below b3 HR2.out.lt
  have q3 := r3.one4
  have l3 := r3.lt
  have HB3 := Lib.hid B3
  have z3 := B3.size
  clear b3 B3 r3
  go_wp2_with fail
  refine (newSearch_any rs t _ _ lo hi lo2 hi2 _ (HV.out.below HB3.out hh) (by omega) (HW.out.below HB3.out hh2) (by omega) HQ.out HT.out).mono ?_
  rintro _ w4 ⟨E, rfl, s4, hE4, b4⟩
  have B4 := HB3.out.trans (b4.mono (by omega))
  have hbA := al1 w4 (.cells #[.slice E.A (frs rs).length E.c, .slice E.B t.length E.d, .map (some E.bk), .map (some E.bf), .map (some E.bw), .chan (some E.bq)] 95)
  have B5 := B4.trans (hbA.mono B4.size)
  have s5 := s4.below hbA
  have rA := Row.made w4 95 #[.slice E.A (frs rs).length E.c, .slice E.B t.length E.d, .map (some E.bk), .map (some E.bf), .map (some E.bw), .chan (some E.bq)]
  have hnT4 : ¬ E.T [] w4.heap.size := fun ht => by have := s4.T_lt ht; omega
  have hlow : ∀ k, E.T ([] : List WtM) k → w.heap.size ≤ k := fun k hk => by have := s4.T_low hk; omega
  have hz5 := B5.size
  have HS5 := Lib.hid s5
  have HNT := Lib.hid hnT4
  have HLOW := Lib.hid hlow
  have HB5 := Lib.hid B5
  have HRA := Lib.hid rA
  clear s4 s5 b4 B4 B5 hbA hnT4 hlow rA q3
  unfold Env.v
  go_wp2
  generalize w4.alloc (.cells #[.slice E.A (frs rs).length E.c, .slice E.B t.length E.d, .map (some E.bk), .map (some E.bf), .map (some E.bw), .chan (some E.bq)] 95) = wA at *
  go_loopw [8, 31] (fun _ x wr => ∃ j : Nat, j ≤ t.length + 1 ∧ x = .int .i64 (j : Int) ∧ Sea wr E (frs rs) t [] (askTo (frs rs) h j) ∧ Turn (E.T []) wA wr) (fun _ x _ => t.length + 1 - (intOf x).toNat)
  case atStart => exact ⟨0, by omega, rfl, HS5.out, Turn.refl _ _⟩
  case round =>
    obtain ⟨j, hj, rfl, sj, tj⟩ := hrel
    rename World => wr
    have HSJ := Lib.hid sj
    have HTJ := Lib.hid tj
    have rj := tj.row HRA.out HNT.out
    obtain ⟨a0, a1, a2, a3, a4, a5⟩ := rj.six
    have lj := rj.lt
    have HRJ := Lib.hid rj
    clear sj tj rj
    by_cases hlt : j < t.length + 1
    · have i1 : (j : Int) < (t.length : Int) + 1 := by omega
      go_wp2_with fail
      refine (ask_int E (frs rs) t [] _ h j _ HSJ.out (by omega)).mono ?_
      rintro _ w8 ⟨rfl, s8, t8⟩
      have HS8 := Lib.hid s8
      have HT8 := Lib.hid (HTJ.out.trans t8 fun _ h => .inl h)
      clear s8 t8
      go_wp2
      go_roundw
      case rel => exact ⟨j + 1, by omega, by go_num, HS8.out, HT8.out⟩
      case measure => simp [intOf]; omega
    · have hje : j = t.length + 1 := by omega
      subst hje
      have i1 : ¬ ((t.length + 1 : Nat) : Int) < (t.length : Int) + 1 := by omega
      go_wp2_with fail
      refine (run_any E (frs rs) t [] _ _ HSJ.out).mono ?_
      rintro _ w6 ⟨rfl, S6, hruns, hrc, M6, s6, t6, hT6⟩
      have r6 := t6.row HRJ.out HNT.out
      obtain ⟨c0, c1, c2, c3, c4, c5⟩ := r6.six
      have l6 := r6.lt
      have hzr := HTJ.out.size
      have hz6 := t6.size
      have B6 := (HB5.out.trans (HTJ.out.below HLOW.out (by omega))).trans (t6.below HLOW.out (by omega))
      have HR6 := Lib.hid r6
      have HS6 := Lib.hid s6
      have HRU := Lib.hid hruns
      have HRC := Lib.hid hrc
      have HB6 := Lib.hid B6
      clear s6 t6 hT6 hruns hrc B6 r6 a0 a1 a2 a3 a4 a5
      go_wp2
      go_loopw [9, 10, 11, 45] (fun o _ _ x wq => ∃ j : Nat, j ≤ t.length + 1 ∧ x = .int .i64 (j : Int) ∧ Its wq w6.heap.size o (spanTo rs t h (13 * j + j)) ∧ Below w6.heap.size w6 wq) (fun _ _ _ x _ => t.length + 1 - (intOf x).toNat)
      case atStart => exact ⟨0, by omega, rfl, Its.nil _ _, Below.refl _ _⟩
      case round =>
        obtain ⟨j, hj, rfl, hit, hbw⟩ := hrel
        rename World => wq
        have HIT := Lib.hid hit
        have HBW := Lib.hid hbw
        have hsw := hbw.size
        clear hit hbw
        by_cases hlt2 : j < t.length + 1
        · have i2 : (j : Int) < (t.length : Int) + 1 := by omega
          go_wp2
          go_loopw [9, 11] (fun o x wv => ∃ k : Nat, j ≤ k ∧ k ≤ t.length + 1 ∧ x = .int .i64 (k : Int) ∧ Its wv w6.heap.size o (spanTo rs t h (13 * j + k)) ∧ Below w6.heap.size w6 wv) (fun _ x _ => t.length + 1 - (intOf x).toNat)
          case atStart => exact ⟨j, Nat.le_refl _, by omega, rfl, HIT.out, HBW.out⟩
          case round =>
            obtain ⟨k, hk1, hk2, rfl, hik, hbk⟩ := hrel
            rename World => wv
            have hsv := hbk.size
            have HBK := Lib.hid hbk
            have rv := HR6.out.below hbk l6
            obtain ⟨v0, v1, v2, v3, v4, v5⟩ := rv.six
            have lv := rv.lt
            have hln := spanTo_len (rs := rs) (t := t) (h := h) (13 * j + k)
            have HIK := Lib.hid hik
            obtain ⟨Bz, dz, rfl⟩ := hik.form
            by_cases hlt3 : k ≤ t.length
            · have hpk := keyPiece (h := h) (i := j) (k := k) (by unfold maxLen; omega) (by omega) (by omega)
              have hisf := HS6.out.isFound (h := h) (i := j) (k := k) hz4 (by omega) (by omega)
              have hsf := span_found HFT.out HH.out HRU.out HRC.out (i := j) (by omega) k
              have hmf : MapAt wv 99 boolE E.bf S6.found.length (memF (S6.found.map fun p => pieceK p.1 p.2.1 p.2.2)) := HS6.out.found.keep (hbk.block _ HS6.out.found.lt)
              have i3 : (k : Int) ≤ (t.length : Int) := by omega
              by_cases hd : Der (· ∈ rs) t [h] j k
              · have hlk := set_in hmf kPiece Try.underlying91 hpk (hisf.2 (hsf.2 hd))
                have HNX := Lib.hid (spanTo_t (rs := rs) (t := t) (h := h) (q := 13 * j + k) ((SpanP.at (by omega)).2 ⟨by omega, hlt3, hd⟩))
                have HO : Hid (wv.ownsRow w6.heap.size 2 1 (.slice Bz (spanTo rs t h (13 * j + k)).length dz) (spanTo rs t h (13 * j + k)).length ((spanTo rs t h (13 * j + k)).map (Value.int .i64))) := Lib.hid HIK.out
                clear hd hsf hisf hpk hmf hik hbk rv
                unfold pieceV at hlk
                generalize spanTo rs t h (13 * j + k) = L at *
                go_wp2_with (at_builtin; refine wpList_append_own _ rfl _ _ 29 rfl w6.heap.size 2 j0 _ 1 8 Try.underlying29 hj0 hy0 hy1 hy2 rfl (by decide) _ _ _ rfl (World.ownsRow.alloc HO.out _) ⟨wv.heap.size, 0, none⟩ 1 1 [.int .i64 (13 * (j : Int) + (k : Int))] rfl rfl (cell_one_new _ _ _) (one_i64 _) (by unfold maxLen; omega) (by omega) (by simp; omega) ?_)
                intro v1 w9 hown1 hg1 _
                have s1 : Its w9 w6.heap.size v1 (spanTo rs t h (13 * j + k + 1)) := by
                  rw [HNX.out]
                  refine Its.one _ ?_
                  simpa using hown1
                have B1 : Below w6.heap.size w6 w9 := Tx.below_grown (HBK.out.trans ((al1 wv _).mono hsv)) (World.ownsRow.alloc HO.out _) hg1 (by simp; omega) (by omega)
                have HS1 := Lib.hid s1
                have HB1' := Lib.hid B1
                clear hown1 hg1 s1 B1
                go_wp2
                go_roundw
                case rel => exact ⟨k + 1, by omega, by omega, by go_num, HS1.out, HB1'.out⟩
                case measure => simp [intOf]; omega
              · have hlk := set_out hmf kPiece Try.underlying91 hpk (fun hm => hd (hsf.1 (hisf.1 hm)))
                have HNX := Lib.hid (spanTo_f (rs := rs) (t := t) (h := h) (q := 13 * j + k) (fun hp => hd ((SpanP.at (by omega)).1 hp).2.2))
                clear hd hsf hisf hpk hmf hik hbk rv
                unfold pieceV at hlk
                go_wp2
                go_roundw
                case rel => exact ⟨k + 1, by omega, by omega, by go_num, by rw [show 13 * j + (k + 1) = 13 * j + k + 1 by omega, HNX.out]; exact HIK.out, HBK.out⟩
                case measure => simp [intOf]; omega
            · have hke : k = t.length + 1 := by omega
              have i3 : ¬ (k : Int) ≤ (t.length : Int) := by omega
              have HNX := Lib.hid (spanTo_next (rs := rs) (h := h) (i := j) h12 (by omega))
              have HKE := Lib.hid hke
              clear hke hik hbk rv
              go_wp2
              go_roundw
              case rel => exact ⟨j + 1, by omega, by go_num, by rw [HNX.out, ← HKE.out]; exact HIK.out, HBK.out⟩
              case measure => simp [intOf]; omega
        · have hje : j = t.length + 1 := by omega
          have i2 : ¬ (j : Int) < (t.length : Int) + 1 := by omega
          have hie := HIT.out
          rw [hje, spanTo_end h12] at hie
          obtain ⟨g, ho, hg⟩ := hie.own
          have HOG := Lib.hid (And.intro ho hg)
          clear hie ho hg hje
          go_wp2
          go_ret
          exact ⟨_, g, rfl, HOG.out.1, fun hn => by have := HOG.out.2 hn; have := HB6.out.size; omega, HB6.out.trans (HBW.out.mono HB6.out.size)⟩

theorem implSpans_any (rs : List RuleD) (t : List ByteArray) (h : ByteArray) (v tv : Value) (lo hi lo2 hi2 : Nat) (w : World) (hv : Rules w lo hi v rs) (hh : hi ≤ w.heap.size) (h2 : Strs w lo2 hi2 tv t) (hh2 : hi2 ≤ w.heap.size) :
    Calls Try.prog 35 #[.agg #[v], tv, .string h] w (MadeI w (spansOf rs t h)) := by
  unfold spansOf
  cases hq : (gramB rs && textB t && headB h)
  · refine (implSpans_no rs t h v tv lo hi lo2 hi2 w hv hh h2 hh2 hq).mono ?_
    rintro e w' ⟨rfl, b⟩
    exact ⟨_, 0, rfl, OwnI.nil _ _, fun h => absurd rfl h, b⟩
  · rw [if_pos rfl]
    have hg : gramB rs = true := by revert hq; cases gramB rs <;> simp
    have ht : textB t = true := by revert hq; cases textB t <;> simp
    have hb : headB h = true := by revert hq; cases headB h <;> simp
    exact implSpans_yes rs t h v tv lo hi lo2 hi2 w hv hh h2 hh2 hg ht hb
end Go.Proofs.Ytmhdbjoljonhdaa
