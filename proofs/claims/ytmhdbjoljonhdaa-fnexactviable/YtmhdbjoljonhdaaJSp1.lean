import Derived.Test.YtmhdbjoljonhdaaEar
import Derived.Test.YtmhdbjoljonhdaaHeadsS
import Derived.Test.YtmhdbjoljonhdaaCom
import Derived.Deep.AppendLies
import Derived.Test.YtmhdbjoljonhdaaReachI
import Derived.Test.YtmhdbjoljonhdaaWnew1
/- The model's table of what heads come to, as data: where a body may end; when nothing is left to be filled in, the table tells all. No program stands in this text. -/
namespace Go.Proofs.Ytmhdbjoljonhdaa
open Go.RowKit

def hIx (hs : List ByteArray) (s : ByteArray) : Nat := hs.findIdx fun t => decide (t = s)
theorem hIx_lt {hs : List ByteArray} {s : ByteArray} (h : s ∈ hs) : hIx hs s < hs.length := List.findIdx_lt_length_of_exists ⟨s, h, by simp⟩
theorem hIx_at {hs : List ByteArray} {s : ByteArray} (h : s ∈ hs) : hs[hIx hs s]'(hIx_lt h) = s := by
  have := List.findIdx_getElem (w := hIx_lt h)
  exact of_decide_eq_true this
theorem hIx_first {hs : List ByteArray} {s : ByteArray} {k : Nat} (hk : k < hs.length) (e : hs[k] = s) (hn : ∀ j (h : j < hs.length), j < k → hs[j] ≠ s) : hIx hs s = k := by
  have h := hIx_lt (e ▸ List.getElem_mem hk)
  have h2 := hIx_at (e ▸ List.getElem_mem hk)
  rcases Nat.lt_trichotomy (hIx hs s) k with h3 | h3 | h3
  · exact absurd h2 (hn _ h h3)
  · exact h3
  · have := List.not_of_lt_findIdx h3
    simp [e] at this
theorem hIx_get {hs : List ByteArray} (hn : hs.Nodup) {i : Nat} (hi : i < hs.length) : hIx hs hs[i] = i :=
  hIx_first hi rfl fun j hj hl e => (List.pairwise_iff_getElem.1 hn) j i hj hi hl e
abbrev TabF := Nat → Nat → Bool
/-- by one symbol more, from places of which P holds -/
def stepP (T : TabF) (hs t : List ByteArray) (s : ByteArray) (P : Nat → Prop) (e : Nat) : Prop :=
  e ≤ t.length ∧ ∃ k, k ≤ t.length ∧ P k ∧ ((s ∈ hs ∧ k ≤ e ∧ T (hIx hs s) (13 * k + e) = true) ∨ (s ∉ hs ∧ t[k]? = some s ∧ e = k + 1))
def endP (T : TabF) (hs t : List ByteArray) (body : List ByteArray) (P : Nat → Prop) : Nat → Prop := body.foldl (fun P s => stepP T hs t s P) P
theorem endP_snoc {T : TabF} {hs t body : List ByteArray} {s : ByteArray} {P : Nat → Prop} : endP T hs t (body ++ [s]) P = stepP T hs t s (endP T hs t body P) := by unfold endP; rw [List.foldl_append]; rfl
theorem endP_take {T : TabF} {hs t body : List ByteArray} {P : Nat → Prop} {j : Nat} (h : j < body.length) : endP T hs t (body.take (j + 1)) P = stepP T hs t body[j] (endP T hs t (body.take j) P) := by rw [List.take_succ_eq_append_getElem h, endP_snoc]
/-- all that the table tells is so -/
def TSound (rs : List RuleD) (t : List ByteArray) (T : TabF) : Prop := ∀ i (h : i < (hsOf rs).length) k e, k ≤ t.length → e ≤ t.length → T i (13 * k + e) = true → Der (· ∈ rs) t [(hsOf rs)[i]] k e
/-- nothing is left to be filled in -/
def TClosed (rs : List RuleD) (t : List ByteArray) (T : TabF) : Prop := ∀ i (h : i < rs.length) k e, k ≤ t.length → e ≤ t.length → endP T (hsOf rs) t rs[i].body (· = k) e → T (hIx (hsOf rs) rs[i].head) (13 * k + e) = true
section
variable {rs : List RuleD} {t : List ByteArray} {T : TabF}
theorem TSound.ends (S : TSound rs t T) {i : Nat} : ∀ (body : List ByteArray) (e : Nat), endP T (hsOf rs) t body (· = i) e → Der (· ∈ rs) t body i e := by
  intro body
  have key : ∀ (r : List ByteArray) (e : Nat), endP T (hsOf rs) t r.reverse (· = i) e → Der (· ∈ rs) t r.reverse i e := by
    intro r
    induction r with
    | nil => rintro e rfl; exact .nil _
    | cons s r ih =>
      intro e h
      rw [List.reverse_cons] at h ⊢
      rw [endP_snoc] at h
      obtain ⟨he, k, hk, hP, h⟩ := h
      have d := ih k hP
      rcases h with ⟨hm, _, ht⟩ | ⟨_, ht, rfl⟩
      · have := S _ (hIx_lt hm) k e hk he ht
        rw [hIx_at hm] at this
        exact d.append this
      · exact d.snoc_tok ht
  have := key body.reverse
  rwa [List.reverse_reverse] at this
theorem TClosed.walk (C : TClosed rs t T) (hh : ∀ s ∈ t, s ∉ hsOf rs) {l : List ByteArray} {i k : Nat} (d : Der (· ∈ rs) t l i k) : ∀ P : Nat → Prop, P i → i ≤ t.length → endP T (hsOf rs) t l P k := by
  induction d with
  | nil => exact fun P h _ => h
  | @tok s l i k h _ ih =>
    intro P hP hi
    have hl := (List.getElem?_eq_some_iff.1 h).1
    show endP T (hsOf rs) t l (stepP T (hsOf rs) t s P) k
    exact ih _ ⟨by omega, i, hi, hP, .inr ⟨hh s (List.mem_of_getElem? h), h, rfl⟩⟩ (by omega)
  | @head r l i j k hr d1 d2 ih1 ih2 =>
    intro P hP hi
    have hj := d1.end hi
    obtain ⟨q, hq, rfl⟩ := List.getElem_of_mem hr
    have hT := C q hq i j hi hj (ih1 _ rfl hi)
    show endP T (hsOf rs) t l (stepP T (hsOf rs) t rs[q].head P) k
    exact ih2 _ ⟨hj, i, hi, hP, .inl ⟨hs_all hq, d1.le, hT⟩⟩ hj
/-- the table tells just what is come to -/
theorem tab_tells (S : TSound rs t T) (C : TClosed rs t T) (hh : ∀ s ∈ t, s ∉ hsOf rs) {i : Nat} (hi : i < (hsOf rs).length) {k e : Nat} (hk : k ≤ t.length) (he : e ≤ t.length) : T i (13 * k + e) = true ↔ Der (· ∈ rs) t [(hsOf rs)[i]] k e := by
  constructor
  · exact S i hi k e hk he
  · intro d
    obtain ⟨r, hr, hrh, d2⟩ := d.head_inv fun s hs e => hh s (List.mem_of_getElem? hs) (e ▸ List.getElem_mem hi)
    obtain ⟨q, hq, rfl⟩ := List.getElem_of_mem hr
    have := C q hq k e hk he (C.walk hh d2 _ rfl hk)
    rw [hrh, hIx_get (show (hsOf rs).Nodup from headsTo_nodup rs _) hi] at this
    exact this
theorem ends_tells (S : TSound rs t T) (C : TClosed rs t T) (hh : ∀ s ∈ t, s ∉ hsOf rs) {l : List ByteArray} {i k : Nat} (hi : i ≤ t.length) : endP T (hsOf rs) t l (· = i) k ↔ Der (· ∈ rs) t l i k :=
  ⟨fun h => S.ends l k h, fun d => C.walk hh d _ rfl hi⟩
end
theorem tok_no_head {rs : List RuleD} {t : List ByteArray} (R : Rt rs) (ht : ∀ s ∈ t, tokB s = true) : ∀ s ∈ t, s ∉ hsOf rs := fun s hs hm => by
  have := ht s hs
  rw [head_no_tok (R.hs_head hm)] at this
  cases this
/-- one place is filled in -/
def setT (T : TabF) (i q : Nat) : TabF := fun a b => if a = i ∧ b = q then true else T a b
/-- how many places are left -/
def emptyAt (f : Nat → Bool) : Nat → Nat
  | 0 => 0
  | n + 1 => emptyAt f n + if f n = true then 0 else 1
def emptyIn (T : TabF) : Nat → Nat
  | 0 => 0
  | n + 1 => emptyIn T n + emptyAt (T n) 169
theorem emptyAt_same {f g : Nat → Bool} {n : Nat} (h : ∀ q, q < n → f q = g q) : emptyAt f n = emptyAt g n := by
  induction n with
  | zero => rfl
  | succ n ih => unfold emptyAt; rw [ih fun q hq => h q (by omega), h n (by omega)]
theorem emptyAt_less {f g : Nat → Bool} {n q : Nat} (hq : q < n) (hf : f q = false) (hg : g q = true) (h : ∀ p, p ≠ q → g p = f p) : emptyAt g n + 1 = emptyAt f n := by
  induction n with
  | zero => omega
  | succ n ih =>
    by_cases e : q = n
    · subst e
      unfold emptyAt
      rw [hf, hg, emptyAt_same (f := g) (g := f) fun p hp => h p (by omega)]
      simp
    · unfold emptyAt
      have := ih (by omega)
      rw [h n (fun e' => e e'.symm)]
      omega
theorem setT_same (T : TabF) (i q : Nat) : setT T i q i q = true := by simp [setT]
theorem setT_row {T : TabF} {i q a : Nat} (h : a ≠ i) : setT T i q a = T a := by funext b; simp [setT, h]
theorem setT_cell {T : TabF} {i q b : Nat} (h : b ≠ q) : setT T i q i b = T i b := by simp [setT, h]
theorem emptyIn_same {T U : TabF} {n : Nat} (h : ∀ i, i < n → U i = T i) : emptyIn U n = emptyIn T n := by
  induction n with
  | zero => rfl
  | succ n ih => unfold emptyIn; rw [ih fun i hi => h i (by omega), h n (by omega)]
theorem emptyIn_less {T : TabF} {i q n : Nat} (hi : i < n) (hq : q < 169) (hf : T i q = false) : emptyIn (setT T i q) n + 1 = emptyIn T n := by
  induction n with
  | zero => omega
  | succ n ih =>
    by_cases e : i = n
    · subst e
      unfold emptyIn
      have h1 : emptyIn (setT T i q) i = emptyIn T i := emptyIn_same fun a ha => setT_row (by omega)
      rw [h1]
      have := emptyAt_less (f := T i) (g := setT T i q i) hq hf (setT_same T i q) fun p hp => setT_cell hp
      omega
    · unfold emptyIn
      rw [setT_row (a := n) (fun h => e h.symm)]
      have := ih (by omega)
      omega
theorem setT_mono {T : TabF} {i q a b : Nat} (h : T a b = true) : setT T i q a b = true := by unfold setT; split <;> simp [h]
theorem TSound.set {rs : List RuleD} {t : List ByteArray} {T : TabF} (S : TSound rs t T) {i k e : Nat} (hk : k ≤ t.length) (he : e ≤ t.length) (h12 : t.length ≤ 12) (hd : ∀ h : i < (hsOf rs).length, Der (· ∈ rs) t [(hsOf rs)[i]] k e) : TSound rs t (setT T i (13 * k + e)) := by
  intro a ha k' e' hk' he' h
  unfold setT at h
  split at h
  · rename_i hh
    obtain ⟨rfl, h2⟩ := hh
    obtain rfl : k' = k := by omega
    obtain rfl : e' = e := by omega
    exact hd ha
  · exact S a ha k' e' hk' he' h
end Go.Proofs.Ytmhdbjoljonhdaa

/- The walks of the model's l03All, l03Sort, l03Fix, Nullable and Productive. -/
namespace Go.Proofs.Ytmhdbjoljonhdaa
open Go.RowKit

theorem Sts.below {w w' : World} {base : Nat} {v : Value} {ss : List ByteArray} (h : Sts w base v ss) (k : Below w.heap.size w w') : Sts w' base v ss := by
  refine ⟨h.1, ?_⟩
  rcases h.2 with a | ⟨g, cap, cur, rfl, hb, hh, r⟩
  · exact .inl a
  · have hr : Row w g 9 cur := hh
    exact .inr ⟨g, cap, cur, rfl, hb, (k.block g hr.lt).trans hh, r⟩
theorem Sts.form {w : World} {base : Nat} {v : Value} {ss : List ByteArray} (h : Sts w base v ss) : ∃ B d, v = .slice B ss.length d := by
  rcases h.2 with ⟨rfl, h0⟩ | ⟨g, cap, cur, rfl, _⟩
  · exact ⟨none, 0, by rw [h0]⟩
  · exact ⟨_, _, rfl⟩
/-- is all of a body among some, or a token, if these count? -/
def allB (body some : List ByteArray) (tok : Bool) : Bool := body.all fun s => inB some s || (tok && tokB s)
theorem allB_iff (body ins : List ByteArray) (tok : Bool) : allB body ins tok = true ↔ ∀ s ∈ body, (tok && tokB s) = false → s ∈ ins := by
  unfold allB
  rw [List.all_eq_true]
  constructor
  · intro h s hs ht
    have := h s hs
    rw [ht, Bool.or_false] at this
    exact (inB_iff _ _).1 this
  · intro h s hs
    cases ht : (tok && tokB s)
    · rw [(inB_iff _ _).2 (h s hs ht), Bool.true_or]
    · rw [Bool.or_true]
theorem allB_no {body ins : List ByteArray} {tok : Bool} {k : Nat} (h : k < body.length) (h1 : (inB ins body[k] || (tok && tokB body[k])) = false) : allB body ins tok = false := by
  rw [Bool.eq_false_iff]
  intro e
  unfold allB at e
  rw [List.all_eq_true] at e
  have := e _ (List.getElem_mem h)
  rw [h1] at this; cases this
theorem allB_yes {body ins : List ByteArray} {tok : Bool} (h : ∀ k (h : k < body.length), (inB ins body[k] || (tok && tokB body[k])) = true) : allB body ins tok = true := by
  unfold allB
  rw [List.all_eq_true]
  intro s hs
  obtain ⟨k, hk, rfl⟩ := List.getElem_of_mem hs
  exact h k hk

set_option maxRecDepth 100000 in
set_option maxHeartbeats 2000000 in
theorem specAll_any (v x : Value) (body ins : List ByteArray) (tok : Bool) (lo hi lo' hi' : Nat) (w : World) (h : Strs w lo hi v body) (hx : Strs w lo' hi' x ins) :
    Calls Try.prog 104 #[v, x, .bool tok] w fun e w' => e = .returned (.bool (allB body ins tok)) ∧ w = w' := by
  have HX := Lib.hid hx
  obtain ⟨X, xc, rfl, -⟩ := hx
  obtain ⟨A, c, rfl, hlc, hc, hsz, hcell⟩ := h
  unfold maxLen at hc
  have HC := Lib.hid hcell
  have HZ := Lib.hid hsz
  clear hcell hsz
  go_enter Try.func104, Try.ntmps104
  go_wp2
  go_loop [7] (fun i => ∃ k : Nat, k ≤ body.length ∧ i = .int .i64 k ∧ ∀ j (h : j < body.length), j < k → (inB ins body[j] || (tok && tokB body[j])) = true) (fun i => body.length - (intOf i).toNat)
  case atStart => exact ⟨0, by omega, rfl, fun j _ hj => by omega⟩
  case round =>
    obtain ⟨k, hk, rfl, hall⟩ := hrel
    have HA := Lib.hid hall
    clear hall
    by_cases hlt : k < body.length
    · obtain ⟨b, off, rfl, _, _, hcc⟩ := HC.out (by omega)
      have hck := hcc k hlt
      have hks := HZ.out _ (List.getElem_mem hlt)
      clear hcc
      cases hi : inB ins body[k]
      · have HI := Lib.hid hi
        clear hi
        cases tok
        · go_wp2_with fail
          refine (specIn_any _ ins body[k] lo' hi' _ HX.out).mono ?_
          rintro e w1 ⟨rfl, rfl⟩
          rw [HI.out]
          go_wp2
          go_ret
          exact ⟨ret_bool (allB_no hlt (by rw [HI.out]; rfl)).symm, rfl⟩
        · cases ht : tokB body[k]
          · have HT := Lib.hid ht
            clear ht
            go_wp2_with fail
            refine (specIn_any _ ins body[k] lo' hi' _ HX.out).mono ?_
            rintro e w1 ⟨rfl, rfl⟩
            rw [HI.out]
            go_wp2_with fail
            refine (specIsToken_any _ _ hks).mono ?_
            rintro e w1 ⟨rfl, rfl⟩
            rw [HT.out]
            go_wp2
            go_ret
            exact ⟨ret_bool (allB_no hlt (by rw [HI.out, HT.out]; rfl)).symm, rfl⟩
          · have HT := Lib.hid ht
            clear ht
            go_wp2_with fail
            refine (specIn_any _ ins body[k] lo' hi' _ HX.out).mono ?_
            rintro e w1 ⟨rfl, rfl⟩
            rw [HI.out]
            go_wp2_with fail
            refine (specIsToken_any _ _ hks).mono ?_
            rintro e w1 ⟨rfl, rfl⟩
            rw [HT.out]
            go_wp2
            go_round
            case rel => exact ⟨k + 1, by omega, by go_num, fun j hj hjk => by
              by_cases e : j = k
              · subst e; rw [HT.out]; simp
              · exact HA.out j hj (by omega)⟩
            case measure => simp [intOf]; omega
      · have HI := Lib.hid hi
        clear hi
        go_wp2_with fail
        refine (specIn_any _ ins body[k] lo' hi' _ HX.out).mono ?_
        rintro e w1 ⟨rfl, rfl⟩
        rw [HI.out]
        go_wp2
        go_round
        case rel => exact ⟨k + 1, by omega, by go_num, fun j hj hjk => by
          by_cases e : j = k
          · subst e; rw [HI.out]; simp
          · exact HA.out j hj (by omega)⟩
        case measure => simp [intOf]; omega
    · go_wp2
      go_ret
      exact ⟨ret_bool (allB_yes fun k hk => HA.out k hk (by omega)).symm, rfl⟩
end Go.Proofs.Ytmhdbjoljonhdaa

/- The walk of the model's l03Sort. -/
namespace Go.Proofs.Ytmhdbjoljonhdaa
open Go.RowKit

def filtB (hs ins : List ByteArray) (k : Nat) : List ByteArray := (hs.take k).filter fun s => inB ins s
theorem filtB_t {hs ins : List ByteArray} {k : Nat} (h : k < hs.length) (hb : inB ins hs[k] = true) : filtB hs ins (k + 1) = filtB hs ins k ++ [hs[k]] := by
  unfold filtB; rw [List.take_succ_eq_append_getElem h, List.filter_append]; simp [hb]
theorem filtB_f {hs ins : List ByteArray} {k : Nat} (h : k < hs.length) (hb : inB ins hs[k] = false) : filtB hs ins (k + 1) = filtB hs ins k := by
  unfold filtB; rw [List.take_succ_eq_append_getElem h, List.filter_append]; simp [hb]
theorem filtB_mem {hs ins : List ByteArray} {k : Nat} {s : ByteArray} (h : s ∈ filtB hs ins k) : s ∈ hs := List.mem_of_mem_take (List.mem_filter.1 h).1
theorem filtB_len (hs ins : List ByteArray) (k : Nat) : (filtB hs ins k).length ≤ k := by
  unfold filtB
  refine Nat.le_trans (List.length_filter_le _ _) ?_
  rw [List.length_take]; omega

set_option maxRecDepth 100000 in
set_option maxHeartbeats 2000000 in
theorem specSort_any (rs : List RuleD) (v x : Value) (ins : List ByteArray) (lo hi lo' hi' : Nat) (w : World) (h : Rules w lo hi v rs) (hh : hi ≤ w.heap.size) (hl20 : rs.length ≤ 1000) (hx : Strs w lo' hi' x ins) (hh' : hi' ≤ w.heap.size) :
    Calls Try.prog 71 #[.agg #[v], x] w (MadeS w ((hsOf rs).filter fun s => inB ins s)) := by
  obtain ⟨i0, hi0, hz0, hz1, hz2⟩ := info_parts Try.infoStr
  have HV := Lib.hid h
  have HX := Lib.hid hx
  obtain ⟨A, c, rfl, -⟩ := h
  obtain ⟨X, xc, rfl, -⟩ := hx
  have hb := al2 w (.cells #[.slice A rs.length c] 25) (.cells #[] 9)
  have R0 := (Row.made w 25 #[.slice A rs.length c]).alloc (.cells #[] 9)
  have c0 := R0.cell 0
  simp at c0
  have hln := headsTo_len rs rs.length
  clear R0
  go_enter Try.func71, Try.ntmps71
  go_wp2_with fail
  refine (specHeadsOf_any rs _ lo hi _ (HV.out.below hb hh) (by simp; omega) (by omega)).mono ?_
  rintro e w1 ⟨u, g, rfl, ho, hg, b1⟩
  change OwnS w1 g u (hsOf rs) at ho
  change (hsOf rs).length ≤ rs.length at hln
  have hg1 : hsOf rs ≠ [] → w.heap.size + 2 ≤ g ∧ g < w1.heap.size := fun hn => by have := hg hn; simpa using this
  have ST := ho.strs hg1
  have hs1 := b1.size
  have N0 : Sts w1 (w.heap.size + 1) (.slice (some ⟨w.heap.size + 1, 0, none⟩) 0 0) [] := by
    have h0 : Sts _ _ (.slice (some ⟨(w.alloc (.cells #[.slice A rs.length c] 25)).heap.size, 0, none⟩) 0 0) [] := Sts.nil (w.alloc (.cells #[.slice A rs.length c] 25)) (base := w.heap.size + 1) (by simp)
    have e : (w.alloc (.cells #[.slice A rs.length c] 25)).heap.size = w.heap.size + 1 := by simp
    rw [e] at h0
    exact h0.below b1
  have hb1 := hb.trans (b1.mono (by simp; omega))
  have hsz : w.heap.size + 2 ≤ w1.heap.size := by simpa using hs1
  have HST := Lib.hid ST
  have HXS := Lib.hid ((HX.out.below hb1 hh'))
  obtain ⟨Ah, ch, rfl, hlc, hc, hss, hcell⟩ := ST
  unfold maxLen at hc
  have HC := Lib.hid hcell
  have HZ : Hid (∀ k, ∀ s ∈ filtB (hsOf rs) ins k, s.size ≤ maxLen) := Lib.hid fun k s hs => hss s (filtB_mem hs)
  have HB1 := Lib.hid hb1
  clear hcell hss b1 hb ho hg hg1 hb1
  go_wp2
  go_loopw [5, 7] (fun y i wr => ∃ k : Nat, k ≤ (hsOf rs).length ∧ i = .int .i64 k ∧ Sts wr (w.heap.size + 1) y (filtB (hsOf rs) ins k) ∧ (∀ b, y.ownBlock = some b → b = w.heap.size + 1 ∨ w1.heap.size ≤ b) ∧ Keeps (w.heap.size + 2) w1.heap.size w1 wr ∧ Below w.heap.size w wr ∧ w1.heap.size ≤ wr.heap.size) (fun _ i _ => (hsOf rs).length - (intOf i).toNat)
  case atStart => exact ⟨0, by omega, rfl, N0, fun b hb => by simp [Value.ownBlock] at hb; omega, Keeps.refl _ _ _, HB1.out, Nat.le_refl _⟩
  case round =>
    obtain ⟨k, hk, rfl, hsts, how, hkp, hbw, hsw⟩ := hrel
    have hfl := filtB_len (hsOf rs) ins k
    by_cases hlt : k < (hsOf rs).length
    · obtain ⟨b, off, rfl, hbl, hbh, hcc⟩ := HC.out (by omega)
      have hck := (hkp.cell (p := ⟨b, off + k, none⟩) hbl hbh).trans (hcc k hlt)
      have HXr := Lib.hid (HX.out.below hbw hh')
      clear hcc
      cases hin : inB ins (hsOf rs)[k]
      · have HI := Lib.hid hin
        have HF := Lib.hid (filtB_f hlt hin)
        clear hin
        go_wp2_with fail
        refine (specIn_any _ ins (hsOf rs)[k] lo' hi' _ HXr.out).mono ?_
        rintro e w2 ⟨rfl, rfl⟩
        rw [HI.out]
        go_wp2
        go_roundw
        case rel => exact ⟨k + 1, by omega, by go_num, by rw [HF.out]; exact hsts, how, hkp, hbw, hsw⟩
        case measure => simp [intOf]; omega
      · have HI := Lib.hid hin
        have HF := Lib.hid (filtB_t hlt hin)
        clear hin
        have HS := Lib.hid hsts
        have HOW := Lib.hid how
        have HKP := Lib.hid hkp
        obtain ⟨By, dy, rfl⟩ := hsts.form
        clear hsts how hkp
        go_wp2_with fail
        refine (specIn_any _ ins (hsOf rs)[k] lo' hi' _ HXr.out).mono ?_
        rintro e w2 ⟨rfl, rfl⟩
        rw [HI.out]
        go_wp2_with (at_builtin; refine wpList_append_lies _ rfl _ _ 27 rfl (w.heap.size + 1) 9 i0 (.string ByteArray.empty) 1 16 Try.underlying27 hi0 hz0 hz1 hz2 rfl (by decide) _ _ _ rfl (World.ownsRow.alloc HS.out _) ⟨wr.heap.size, 0, none⟩ 1 1 [.string (hsOf rs)[k]] rfl rfl (cell_one_new _ _ _) (one_str _) (by omega) (by unfold maxLen; omega) (by omega) (by simp; omega) (wr.heap.size + 1) (by simp) ?_)
        intro gg cap w3 hown3 hg3 hat3 hlt3
        have s3 : Sts w3 (w.heap.size + 1) (.slice (some ⟨gg, 0, none⟩) ((filtB (hsOf rs) ins k).length + 1) cap) (filtB (hsOf rs) ins (k + 1)) := by
          rw [HF.out]
          exact Sts.one _ hown3
        have B3 : Below w.heap.size w w3 := Tx.below_grown (hbw.trans ((al1 wr _).mono hbw.size)) (World.ownsRow.alloc HS.out _) hg3 (by simp; omega) (by omega)
        have z3 : w1.heap.size ≤ w3.heap.size := by have := hg3.size; simp at this; omega
        have o3 : ∀ b, (Value.slice (some ⟨gg, 0, none⟩) ((filtB (hsOf rs) ins k).length + 1) cap).ownBlock = some b → b = w.heap.size + 1 ∨ w1.heap.size ≤ b := fun b hb => by
          have : gg = b := by simpa [Value.ownBlock] using hb
          subst this
          rcases hat3 with hat | hat
          · exact HOW.out _ hat
          · omega
        have K3 : Keeps (w.heap.size + 2) w1.heap.size w1 w3 := HKP.out.trans fun j hj1 hj2 => (hg3.block j (by simp; omega) fun e => by
          have := HOW.out j e.symm
          omega).trans (Below.heap_alloc _ _ _ (by omega))
        clear hown3 hg3 hat3 hlt3
        go_wp2
        go_roundw
        case rel => exact ⟨k + 1, by omega, by go_num, s3, o3, K3, B3, z3⟩
        case measure => simp [intOf]; omega
    · have hks : k = (hsOf rs).length := by omega
      subst hks
      obtain ⟨g, ho, hg⟩ := hsts.own (HZ.out _)
      have HE : Hid (filtB (hsOf rs) ins (hsOf rs).length = (hsOf rs).filter fun s => inB ins s) := Lib.hid (by unfold filtB; rw [List.take_length])
      rw [HE.out] at ho hg
      clear hsts
      go_wp2
      go_ret
      exact ⟨_, g, rfl, ho, fun hn => by have := hg hn; omega, hbw⟩
end Go.Proofs.Ytmhdbjoljonhdaa

/- The walk of the model's l03Fix, and of its Nullable and Productive. -/
namespace Go.Proofs.Ytmhdbjoljonhdaa
open Go.RowKit

theorem cell_one_new1 (w : World) (o : Obj) (x : Value) (t : TypeId) : ∀ j u, [x][j]? = some u → ((w.alloc o).alloc (.cells #[x] t)).cell? ((⟨w.heap.size + 1, 0, none⟩ : Addr).add j) = some u := by
  have e : (w.alloc o).heap.size = w.heap.size + 1 := by simp
  rw [← e]
  exact cell_one_new (w.alloc o) x t
/-- what stands in the list on the way: no two alike, and each comes to it -/
structure Way (tok : Bool) (rs : List RuleD) (ins : List ByteArray) : Prop where
  nodup : ins.Nodup
  com : ∀ s ∈ ins, Com tok rs s
theorem Way.len {tok : Bool} {rs : List RuleD} {ins : List ByteArray} (h : Way tok rs ins) (R : Rt rs) : ins.length ≤ 20 :=
  Nat.le_trans (h.nodup.length_le_of_subset fun s hs => (h.com s hs).in) R.hs_len
theorem Way.more {tok : Bool} {rs : List RuleD} {ins : List ByteArray} (h : Way tok rs ins) {i : Nat} (hi : i < rs.length) (h1 : inB ins rs[i].head = false) (h2 : allB rs[i].body ins tok = true) : Way tok rs (ins ++ [rs[i].head]) := by
  refine ⟨?_, fun s hs => ?_⟩
  · rw [List.nodup_append]
    refine ⟨h.nodup, by simp, fun a ha b hb e => ?_⟩
    rw [List.mem_singleton] at hb
    subst hb e
    rw [(inB_iff _ _).2 ha] at h1; cases h1
  · rw [List.mem_append, List.mem_singleton] at hs
    rcases hs with hs | rfl
    · exact h.com s hs
    · exact .mk i hi fun t ht hn => h.com t ((allB_iff _ _ _).1 h2 t ht hn)
theorem Way.full {tok : Bool} {rs : List RuleD} {ins : List ByteArray} (h : Way tok rs ins) (hc : ∀ i (hi : i < rs.length), allB rs[i].body ins tok = true → inB ins rs[i].head = true) (s : ByteArray) : inB ins s = true ↔ Com tok rs s := by
  rw [inB_iff]
  constructor
  · exact h.com s
  · intro hs
    induction hs with
    | mk i hi _ ih => exact (inB_iff _ _).1 (hc i hi ((allB_iff _ _ _).2 ih))
theorem Way.out {tok : Bool} {rs : List RuleD} {ins : List ByteArray} (h : Way tok rs ins) (hg : gramB rs = true) (hc : ∀ i (hi : i < rs.length), allB rs[i].body ins tok = true → inB ins rs[i].head = true) : ((hsOf rs).filter fun s => inB ins s) = comOf tok rs := by
  unfold comOf
  rw [show headsOf rs = hsOf rs from headsOf_t hg]
  apply List.filter_congr
  intro s _
  rw [Bool.eq_iff_iff, h.full hc]
  simp

set_option maxRecDepth 100000 in
set_option maxHeartbeats 4000000 in
theorem specFix_any (rs : List RuleD) (v : Value) (tok : Bool) (lo hi : Nat) (w : World) (h : Rules w lo hi v rs) (hh : hi ≤ w.heap.size) (hg : gramB rs = true) :
    Calls Try.prog 62 #[.agg #[v], .bool tok] w (MadeS w (comOf tok rs)) := by
  obtain ⟨i0, hi0, hz0, hz1, hz2⟩ := info_parts Try.infoStr
  have HV := Lib.hid h
  have RT := Lib.hid (Rt.of hg)
  have HG := Lib.hid hg
  have hl20 := RT.out.few
  obtain ⟨A, c, rfl, hlc, hc, hcell⟩ := h
  unfold maxLen at hc
  have hsz : ∀ ins, Way tok rs ins → ∀ s ∈ ins, s.size ≤ maxLen := fun ins hw s hs => by
    obtain ⟨i, hi, rfl⟩ := hs_mem (hw.com s hs).in
    obtain ⟨_, _, _, _, _, hcc⟩ := hcell (by omega)
    exact (hcc i hi).1
  have HZ := Lib.hid hsz
  have HC := Lib.hid hcell
  clear hcell hg hsz
  go_enter Try.func62, Try.ntmps62
  go_wp2
  go_loopw [5, 6, 7, 8] (fun x ag _ _ wr => ∃ (ins : List ByteArray) (a : Bool), ag = .bool a ∧ Sts wr (w.heap.size + 1) x ins ∧ Way tok rs ins ∧ (a = false → ∀ i (hi : i < rs.length), allB rs[i].body ins tok = true → inB ins rs[i].head = true) ∧ Row wr w.heap.size 25 #[.slice A rs.length c] ∧ Below w.heap.size w wr) (fun x ag _ _ _ => match x, ag with | .slice _ n _, .bool true => 22 - n | _, _ => 0)
  case atStart => exact ⟨[], true, rfl, by simpa using Sts.nil (w.alloc (.cells #[.slice A rs.length c] 25)) (base := w.heap.size + 1) (by simp), ⟨by simp, by simp⟩, (fun h => by cases h), (Row.made _ _ _).alloc _, al2 _ _ _⟩
  case round =>
    obtain ⟨ins0, a, rfl, hsts, hway, hcl, hrow, hbw⟩ := hrel
    have hsw := hbw.size
    have HWAY := Lib.hid hway
    have HCL := Lib.hid hcl
    have hlen := hway.len RT.out
    have HS := Lib.hid hsts
    obtain ⟨By, dy, rfl⟩ := hsts.form
    rename World => wo
    clear hway hcl hsts
    cases a
    · have HO := Lib.hid (HWAY.out.out HG.out (HCL.out rfl))
      have hwl := hrow.lt
      have hc0 := hrow.cell 0
      simp at hc0
      have ST := HS.out.strs (HZ.out _ HWAY.out)
      have HR := Lib.hid hrow
      clear hrow
      go_wp2_with fail
      refine (specSort_any rs _ _ ins0 lo hi _ _ _ (HV.out.below hbw hh) (by omega) (by omega) ST (Nat.le_refl _)).mono ?_
      rintro e w2 ⟨u, g, rfl, ho, hgg, b2⟩
      rw [HO.out] at ho hgg
      go_wp2
      go_ret
      exact ⟨u, g, rfl, ho, fun hn => by have := hgg hn; omega, hbw.trans (b2.mono hsw)⟩
    · have HROW := Lib.hid hrow
      have HBW := Lib.hid hbw
      clear hrow hbw
      go_wp2
      go_loopw [5, 6, 7, 8] (fun x ag i _ wr => ∃ (j : Nat) (ins : List ByteArray) (a : Bool), j ≤ rs.length ∧ i = .int .i64 (j : Int) ∧ ag = .bool a ∧ Sts wr (w.heap.size + 1) x ins ∧ Way tok rs ins ∧ ins0.length ≤ ins.length ∧ (a = true → ins0.length < ins.length) ∧ (a = false → ∀ i (hi : i < rs.length), i < j → allB rs[i].body ins tok = true → inB ins rs[i].head = true) ∧ Row wr w.heap.size 25 #[.slice A rs.length c] ∧ Below w.heap.size w wr) (fun _ _ i _ _ => rs.length - (intOf i).toNat)
      case atStart => exact ⟨0, ins0, false, by omega, rfl, rfl, HS.out, HWAY.out, Nat.le_refl _, (fun h => by cases h), fun _ i _ hj => by omega, HROW.out, HBW.out⟩
      case round =>
        obtain ⟨j, ins, a, hj, rfl, rfl, hsts, hway, hle, hgt, hcl, hrow, hbw⟩ := hrel
        have hsw := hbw.size
        have hwl := hrow.lt
        have hlen' := hway.len RT.out
        have HW := Lib.hid hway
        have HCI := Lib.hid hcl
        have HGT := Lib.hid hgt
        have HSI := Lib.hid hsts
        have HR := Lib.hid hrow
        have hc0 := hrow.cell 0
        simp at hc0
        obtain ⟨Bz, dz, rfl⟩ := hsts.form
        clear hway hcl hgt hsts hrow
        by_cases hlt : j < rs.length
        · obtain ⟨b, off, rfl, _, hbh, hcc⟩ := HC.out (by omega)
          obtain ⟨hhs, d0, u, d1, hst⟩ := hcc j hlt
          have d0' := (hbw.cell (p := ⟨b, off + j * 2, none⟩) (by show b < _; omega)).trans d0
          have d1' := (hbw.cell (p := ⟨b, off + j * 2 + 1, none⟩) (by show b < _; omega)).trans d1
          have hst' := hst.below hbw hh
          clear hcc d0 d1 hst
          have HST := Lib.hid hst'
          obtain ⟨A', c', rfl, -⟩ := hst'
          have ha := al1 wr (.cells #[.string rs[j].head, .slice A' rs[j].body.length c'] 39)
          have ST := (HSI.out.strs (HZ.out _ HW.out)).below ha (Nat.le_refl _)
          have R4 := HR.out.alloc (.cells #[.string rs[j].head, .slice A' rs[j].body.length c'] 39)
          have S4 : Sts (wr.alloc (.cells #[.string rs[j].head, .slice A' rs[j].body.length c'] 39)) _ _ _ := HSI.out.below ha
          have B4 := hbw.trans (ha.mono hsw)
          have HR4 := Lib.hid R4
          have HS4 := Lib.hid S4
          clear R4 S4
          cases hin : inB ins rs[j].head
          · have HI := Lib.hid hin
            cases hal : allB rs[j].body ins tok
            · have HAL := Lib.hid hal
              clear hal hin
              go_wp2_with fail
              refine (specIn_any _ ins rs[j].head _ _ _ ST).mono ?_
              rintro e w1 ⟨rfl, rfl⟩
              rw [HI.out]
              go_wp2_with fail
              refine (specAll_any _ _ rs[j].body ins tok lo hi _ _ _ (HST.out.below ha (by omega)) ST).mono ?_
              rintro e w1 ⟨rfl, rfl⟩
              rw [HAL.out]
              go_wp2
              go_roundw
              case rel => exact ⟨j + 1, ins, a, by omega, by go_num, rfl, HS4.out, HW.out, hle, HGT.out, fun ha' i hi hij hb => by
                by_cases e : i = j
                · subst e; rw [HAL.out] at hb; cases hb
                · exact HCI.out ha' i hi (by omega) hb, HR4.out, B4⟩
              case measure => simp [intOf]; omega
            · have HAL := Lib.hid hal
              have HWM := Lib.hid (HW.out.more hlt hin hal)
              clear hal hin
              go_wp2_with fail
              refine (specIn_any _ ins rs[j].head _ _ _ ST).mono ?_
              rintro e w1 ⟨rfl, rfl⟩
              rw [HI.out]
              go_wp2_with fail
              refine (specAll_any _ _ rs[j].body ins tok lo hi _ _ _ (HST.out.below ha (by omega)) ST).mono ?_
              rintro e w1 ⟨rfl, rfl⟩
              rw [HAL.out]
              clear ST
              go_wp2_with (at_builtin; refine wpList_append_own _ rfl _ _ 27 rfl (w.heap.size + 1) 9 i0 (.string ByteArray.empty) 1 16 Try.underlying27 hi0 hz0 hz1 hz2 rfl (by decide) _ _ _ rfl (World.ownsRow.alloc HS4.out _) ⟨wr.heap.size + 1, 0, none⟩ 1 1 [.string rs[j].head] rfl rfl (cell_one_new1 _ _ _ _) (one_str _) (by unfold maxLen; omega) (by omega) (by simp; omega) ?_)
              intro v1 w1 hown1 hg1 _
              have s1 : Sts w1 (w.heap.size + 1) v1 (ins ++ [rs[j].head]) := Sts.one _ hown1
              have q1 := Tx.row_grown (HR4.out.alloc _) (World.ownsRow.alloc HS4.out _) (by decide) hg1
              have hb1 : Below w.heap.size w w1 := Tx.below_grown (B4.trans ((al1 _ _).mono B4.size)) (World.ownsRow.alloc HS4.out _) hg1 (by simp; omega) (by omega)
              clear hown1 hg1
              go_wp2
              go_roundw
              case rel => exact ⟨j + 1, _, true, by omega, by go_num, rfl, s1, HWM.out, by simp; omega, fun _ => by simp; omega, (fun h => by cases h), q1, hb1⟩
              case measure => simp [intOf]; omega
          · have HI := Lib.hid hin
            clear hin
            go_wp2_with fail
            refine (specIn_any _ ins rs[j].head _ _ _ ST).mono ?_
            rintro e w1 ⟨rfl, rfl⟩
            rw [HI.out]
            go_wp2
            go_roundw
            case rel => exact ⟨j + 1, ins, a, by omega, by go_num, rfl, HS4.out, HW.out, hle, HGT.out, fun ha' i hi hij hb => by
              by_cases e : i = j
              · subst e; exact HI.out
              · exact HCI.out ha' i hi (by omega) hb, HR4.out, B4⟩
            case measure => simp [intOf]; omega
        · have HFC : Hid (a = false → ∀ i (hi : i < rs.length), allB rs[i].body ins tok = true → inB ins rs[i].head = true) := Lib.hid fun h i hi => HCI.out h i hi (by omega)
          go_wp2
          go_roundw
          case rel => exact ⟨ins, a, rfl, HSI.out, HW.out, HFC.out, HR.out, hbw⟩
          case measure =>
            cases a
            · simp; omega
            · have := HGT.out rfl
              simp; omega

set_option maxHeartbeats 1000000 in
theorem specNullable_any (rs : List RuleD) (v : Value) (lo hi : Nat) (w : World) (h : Rules w lo hi v rs) (hh : hi ≤ w.heap.size) :
    Calls Try.prog 18 #[.agg #[v]] w (MadeS w (comOf false rs)) := by
  have HV := Lib.hid h
  obtain ⟨A, c, rfl, -⟩ := h
  have hb := al1 w (.cells #[.slice A rs.length c] 25)
  have R0 := Row.made w 25 #[.slice A rs.length c]
  cases hq : gramB rs
  · have HE : Hid (comOf false rs = []) := Lib.hid (by unfold comOf; rw [headsOf_f hq]; rfl)
    have HQ := Lib.hid hq
    clear hq
    rw [HE.out]
    go_enter Try.func18, Try.ntmps18
    go_wp2_with fail
    refine (specGramRight_any rs _ lo hi _ (HV.out.below hb hh) (by simp; omega)).mono ?_
    rintro e w1 ⟨rfl, b1⟩
    rw [HQ.out]
    go_wp2
    go_ret
    exact ⟨_, 0, rfl, ⟨_, 0, rfl, Nat.le_refl _, by unfold maxLen; omega, by simp, fun h => by simp at h⟩, fun hn => absurd rfl hn, (hb.trans (b1.mono (by simp))).trans ((al1 w1 _).mono (hb.trans (b1.mono (by simp))).size)⟩
  · have HQ := Lib.hid hq
    clear hq
    go_enter Try.func18, Try.ntmps18
    go_wp2_with fail
    refine (specGramRight_any rs _ lo hi _ (HV.out.below hb hh) (by simp; omega)).mono ?_
    rintro e w1 ⟨rfl, b1⟩
    rw [HQ.out]
    have c1 := (R0.below b1 (by simp)).cell 0
    simp at c1
    have hb1 := hb.trans (b1.mono (by simp))
    have z1 := hb1.size
    go_wp2_with fail
    refine (specFix_any rs _ false lo hi _ (HV.out.below hb1 hh) (by omega) HQ.out).mono ?_
    rintro e w2 ⟨u, g, rfl, ho, hg, b2⟩
    go_wp2
    go_ret
    exact ⟨u, g, rfl, ho, fun hn => by have := hg hn; omega, hb1.trans (b2.mono z1)⟩
set_option maxHeartbeats 1000000 in
theorem specProductive_any (rs : List RuleD) (v : Value) (lo hi : Nat) (w : World) (h : Rules w lo hi v rs) (hh : hi ≤ w.heap.size) :
    Calls Try.prog 19 #[.agg #[v]] w (MadeS w (comOf true rs)) := by
  have HV := Lib.hid h
  obtain ⟨A, c, rfl, -⟩ := h
  have hb := al1 w (.cells #[.slice A rs.length c] 25)
  have R0 := Row.made w 25 #[.slice A rs.length c]
  cases hq : gramB rs
  · have HE : Hid (comOf true rs = []) := Lib.hid (by unfold comOf; rw [headsOf_f hq]; rfl)
    have HQ := Lib.hid hq
    clear hq
    rw [HE.out]
    go_enter Try.func19, Try.ntmps19
    go_wp2_with fail
    refine (specGramRight_any rs _ lo hi _ (HV.out.below hb hh) (by simp; omega)).mono ?_
    rintro e w1 ⟨rfl, b1⟩
    rw [HQ.out]
    go_wp2
    go_ret
    exact ⟨_, 0, rfl, ⟨_, 0, rfl, Nat.le_refl _, by unfold maxLen; omega, by simp, fun h => by simp at h⟩, fun hn => absurd rfl hn, (hb.trans (b1.mono (by simp))).trans ((al1 w1 _).mono (hb.trans (b1.mono (by simp))).size)⟩
  · have HQ := Lib.hid hq
    clear hq
    go_enter Try.func19, Try.ntmps19
    go_wp2_with fail
    refine (specGramRight_any rs _ lo hi _ (HV.out.below hb hh) (by simp; omega)).mono ?_
    rintro e w1 ⟨rfl, b1⟩
    rw [HQ.out]
    have c1 := (R0.below b1 (by simp)).cell 0
    simp at c1
    have hb1 := hb.trans (b1.mono (by simp))
    have z1 := hb1.size
    go_wp2_with fail
    refine (specFix_any rs _ true lo hi _ (HV.out.below hb1 hh) (by omega) HQ.out).mono ?_
    rintro e w2 ⟨u, g, rfl, ho, hg, b2⟩
    go_wp2
    go_ret
    exact ⟨u, g, rfl, ho, fun hn => by have := hg hn; omega, hb1.trans (b2.mono z1)⟩
end Go.Proofs.Ytmhdbjoljonhdaa

/- The walk of the model's l03Reach. -/
namespace Go.Proofs.Ytmhdbjoljonhdaa
open Go.RowKit

/-- a list of yes and no, in blocks ahead of hi -/
def BoolsAt (w : World) (hi : Nat) (v : Value) (gs : List Bool) : Prop :=
  ∃ A c, v = .slice A gs.length c ∧ gs.length ≤ c ∧ c ≤ maxLen ∧
    (0 < gs.length → ∃ b off, A = some ⟨b, off, none⟩ ∧ b < hi ∧ ∀ i (h : i < gs.length), w.cell? ⟨b, off + i, none⟩ = some (.bool gs[i]))
theorem BoolsAt.below {w w' : World} {hi : Nat} {v : Value} {l : List Bool} (h : BoolsAt w hi v l) {B : Nat} (b : Below B w w') (hB : hi ≤ B) : BoolsAt w' hi v l := by
  obtain ⟨A, c, h1, h2, h3, h5⟩ := h
  refine ⟨A, c, h1, h2, h3, fun hp => ?_⟩
  obtain ⟨g, off, e, hg, hc⟩ := h5 hp
  exact ⟨g, off, e, hg, fun i hi => (b.cell (p := ⟨g, off + i, none⟩) (by show g < B; omega)).trans (hc i hi)⟩
/-- the numbers of the rules that are good -/
def ixOf (gs : List Bool) : List Nat := (List.range gs.length).filter fun i => gs.getD i false
theorem ixOf_mem {gs : List Bool} {i : Nat} : i ∈ ixOf gs ↔ ∃ h : i < gs.length, gs[i] = true := by
  unfold ixOf
  rw [List.mem_filter, List.mem_range]
  constructor
  · rintro ⟨h1, h2⟩; exact ⟨h1, by simpa [h1] using h2⟩
  · rintro ⟨h1, h2⟩; exact ⟨h1, by simpa [h1] using h2⟩

structure WayR (rs : List RuleD) (ix : List Nat) (ins : List ByteArray) : Prop where
  nodup : ins.Nodup
  rch : ∀ s ∈ ins, Rch rs ix s
  start : startOf rs ∈ ins
def bodies (rs : List RuleD) : List ByteArray := rs.flatMap (·.body)
theorem bodies_len (rs : List RuleD) (h : ∀ i (hi : i < rs.length), rs[i].body.length ≤ 5) : (bodies rs).length ≤ rs.length * 5 := by
  induction rs with
  | nil => simp [bodies]
  | cons r rs ih =>
    have h0 := h 0 (by simp)
    have h1 := ih fun i hi => by have := h (i + 1) (by simpa using hi); simpa using this
    simp only [bodies, List.flatMap_cons, List.length_append, List.length_cons, List.getElem_cons_zero] at h0 h1 ⊢
    omega
theorem aft_body {rs : List RuleD} {ix : List Nat} {h s : ByteArray} (ha : Aft rs ix tkAll h s) : s ∈ bodies rs := by
  unfold bodies
  rw [List.mem_flatMap]
  cases ha with
  | one i hi _ _ _ ht => exact ⟨_, List.getElem_mem hi, ht⟩
  | more i hi _ _ _ ht => exact ⟨_, List.getElem_mem hi, ht⟩
theorem WayR.len {rs : List RuleD} {ix : List Nat} {ins : List ByteArray} (h : WayR rs ix ins) (R : Rt rs) : ins.length ≤ 101 := by
  have h1 : ins.length ≤ (startOf rs :: bodies rs).length := h.nodup.length_le_of_subset fun s hs => by
    rcases h.rch s hs with e | e
    · rw [e]; simp
    · exact List.mem_cons_of_mem _ (aft_body e)
  have h2 := bodies_len rs R.len
  have h3 := R.few
  simp only [List.length_cons] at h1
  omega
theorem nodup_snoc {ins : List ByteArray} {s : ByteArray} (h : ins.Nodup) (hn : inB ins s = false) : (ins ++ [s]).Nodup := by
  rw [List.nodup_append]
  refine ⟨h, by simp, fun a ha b hb e => ?_⟩
  rw [List.mem_singleton] at hb
  subst hb e
  rw [(inB_iff _ _).2 ha] at hn; cases hn
theorem WayR.more {rs : List RuleD} {ix : List Nat} {ins : List ByteArray} (h : WayR rs ix ins) {i : Nat} (hi : i < rs.length) (hx : i ∈ ix) (h1 : inB ins rs[i].head = true) {s : ByteArray} (hs : s ∈ rs[i].body) (hn : inB ins s = false) : WayR rs ix (ins ++ [s]) := by
  refine ⟨nodup_snoc h.nodup hn, fun t ht => ?_, List.mem_append_left _ h.start⟩
  rw [List.mem_append, List.mem_singleton] at ht
  rcases ht with ht | rfl
  · exact h.rch t ht
  · refine .inr (Aft.step hi hx ?_ hs)
    rcases h.rch _ ((inB_iff _ _).1 h1) with e | e
    · exact .inl e
    · exact .inr e
/-- closed at a rule -/
def Shut (rs : List RuleD) (ix : List Nat) (ins : List ByteArray) (i : Nat) : Prop := ∀ hi : i < rs.length, i ∈ ix → inB ins rs[i].head = true → ∀ s ∈ rs[i].body, headB s = true → inB ins s = true
theorem WayR.full {rs : List RuleD} {ix : List Nat} {ins : List ByteArray} (h : WayR rs ix ins) (R : Rt rs) (hc : ∀ i, i < rs.length → Shut rs ix ins i) {s : ByteArray} (hs : headB s = true) : inB ins s = true ↔ Rch rs ix s := by
  constructor
  · intro h1; exact h.rch s ((inB_iff _ _).1 h1)
  · rintro (rfl | ha)
    · exact (inB_iff _ _).2 h.start
    · induction ha with
      | one i hi hx he s ht => exact hc i hi hi hx (by rw [he]; exact (inB_iff _ _).2 h.start) s ht hs
      | more i hi hx ha s ht ih => exact hc i hi hi hx (ih (R.head i hi)) s ht hs
open Classical in
/-- the heads that are reached by the rules of these numbers -/
noncomputable def reachBy (rs : List RuleD) (ix : List Nat) : List ByteArray := (hsOf rs).filter fun s => decide (Rch rs ix s)
theorem WayR.out {rs : List RuleD} {ix : List Nat} {ins : List ByteArray} (h : WayR rs ix ins) (R : Rt rs) (hc : ∀ i, i < rs.length → Shut rs ix ins i) : ((hsOf rs).filter fun s => inB ins s) = reachBy rs ix := by
  unfold reachBy
  apply List.filter_congr
  intro s hs
  rw [Bool.eq_iff_iff, h.full R hc (R.hs_head hs)]
  simp

theorem Sts.lit1 (w : World) {base : Nat} (hb : base ≤ w.heap.size) (s : ByteArray) : Sts (w.alloc (.cells #[.string s] 9)) base (.slice (some ⟨w.heap.size, 0, none⟩) 1 1) [s] := World.ownsRow_lit w #[.string s] 1 hb (by unfold maxLen; omega) rfl

set_option maxRecDepth 100000 in
set_option maxHeartbeats 8000000 in
theorem specReach_any (rs : List RuleD) (v : Value) (gv : Value) (gs : List Bool) (lo hi hg : Nat) (w : World) (h : Rules w lo hi v rs) (hh : hi ≤ w.heap.size) (hq : gramB rs = true) (hb : BoolsAt w hg gv gs) (hhg : hg ≤ w.heap.size) (hgl : gs.length = rs.length) :
    Calls Try.prog 63 #[.agg #[v], gv] w (MadeS w (reachBy rs (ixOf gs))) := by
  obtain ⟨i0, hi0, hz0, hz1, hz2⟩ := info_parts Try.infoStr
  have HV := Lib.hid h
  have RT := Lib.hid (Rt.of hq)
  have hl20 := RT.out.few
  have hl1 := RT.out.one
  obtain ⟨G, gc, rfl, hgc, hgm, hgcell⟩ := hb
  have HGL := Lib.hid hgl
  rw [hgl] at hgc ⊢
  clear hgl
  obtain ⟨A, c, rfl, hlc, hc, hcell⟩ := h
  unfold maxLen at hc hgm
  obtain ⟨b, off, rfl, hbl, hbh, hcc⟩ := hcell (by omega)
  obtain ⟨gb, goff, rfl, hgbh, hgcc⟩ := hgcell (by rw [HGL.out]; omega)
  have hsz : ∀ ins, WayR rs (ixOf gs) ins → ∀ s ∈ ins, s.size ≤ maxLen := fun ins hw s hs => by
    have key : headB s = true ∨ symOK s = true := by
      rcases hw.rch s hs with e | e
      · left; rw [e, RT.out.start]; exact RT.out.head 0 hl1
      · right
        have := aft_body e
        unfold bodies at this
        rw [List.mem_flatMap] at this
        obtain ⟨r, hr, hs⟩ := this
        obtain ⟨i, hi, rfl⟩ := List.getElem_of_mem hr
        exact RT.out.body i hi s hs
    have : s.size ≤ 4 := by
      rcases key with k | k
      · exact headB_size k
      · unfold symOK at k
        rw [Bool.or_eq_true] at k
        rcases k with k | k
        · exact headB_size k
        · exact tokB_size k
    unfold maxLen; omega
  have HZ := Lib.hid hsz
  have HC := Lib.hid hcc
  have HGC := Lib.hid hgcc
  have hst := RT.out.start
  obtain ⟨_, d0, _, _, _⟩ := hcc 0 hl1
  simp at d0
  have HST := Lib.hid hst
  have HW0 : Hid (WayR rs (ixOf gs) [rs[0].head]) := Lib.hid ⟨by simp, fun s hs => by rw [List.mem_singleton] at hs; rw [hs]; exact .inl hst.symm, by rw [hst]; simp⟩
  clear hcell hq hsz hgcell hcc hgcc hst
  have hbw : b < w.heap.size := by omega
  go_enter Try.func63, Try.ntmps63
  go_wp2
  go_loopw [5, 6, 7, 8, 9] (fun x ag _ _ _ wr => ∃ (ins : List ByteArray) (a : Bool), ag = .bool a ∧ Sts wr (w.heap.size + 1) x ins ∧ WayR rs (ixOf gs) ins ∧ (a = false → ∀ i, i < rs.length → Shut rs (ixOf gs) ins i) ∧ Row wr w.heap.size 25 #[.slice (some ⟨b, off, none⟩) rs.length c] ∧ Below w.heap.size w wr) (fun x ag _ _ _ _ => match x, ag with | .slice _ n _, .bool true => 103 - n | _, _ => 0)
  case atStart => exact ⟨[rs[0].head], true, rfl, by simpa using Sts.lit1 (w.alloc (.cells #[.slice (some ⟨b, off, none⟩) rs.length c] 25)) (base := w.heap.size + 1) (by simp) rs[0].head, HW0.out, (fun h => by cases h), (Row.made _ _ _).alloc _, al2 _ _ _⟩
  case round =>
    obtain ⟨ins0, a, rfl, hsts, hway, hcl, hrow, hbw⟩ := hrel
    have hsw := hbw.size
    have HWAY := Lib.hid hway
    have HCL := Lib.hid hcl
    have hlen := hway.len RT.out
    have HS := Lib.hid hsts
    obtain ⟨By, dy, rfl⟩ := hsts.form
    rename World => wo
    clear hway hcl hsts
    cases a
    · have HO := Lib.hid (HWAY.out.out RT.out (HCL.out rfl))
      have hwl := hrow.lt
      have hc0 := hrow.cell 0
      simp at hc0
      have ST := HS.out.strs (HZ.out _ HWAY.out)
      have HR := Lib.hid hrow
      clear hrow
      go_wp2_with fail
      refine (specSort_any rs _ _ ins0 lo hi _ _ _ (HV.out.below hbw hh) (by omega) (by omega) ST (Nat.le_refl _)).mono ?_
      rintro e w2 ⟨u, g, rfl, ho, hgg, b2⟩
      rw [HO.out] at ho hgg
      go_wp2
      go_ret
      exact ⟨u, g, rfl, ho, fun hn => by have := hgg hn; omega, hbw.trans (b2.mono hsw)⟩
    · have HROW := Lib.hid hrow
      have HBW := Lib.hid hbw
      clear hrow hbw
      go_wp2
      go_loopw [5, 6, 7, 8, 9] (fun x ag i _ _ wr => ∃ (j : Nat) (ins : List ByteArray) (a : Bool), j ≤ rs.length ∧ i = .int .i64 (j : Int) ∧ ag = .bool a ∧ Sts wr (w.heap.size + 1) x ins ∧ WayR rs (ixOf gs) ins ∧ ins0.length ≤ ins.length ∧ (a = true → ins0.length < ins.length) ∧ (a = false → ∀ i, i < j → Shut rs (ixOf gs) ins i) ∧ Row wr w.heap.size 25 #[.slice (some ⟨b, off, none⟩) rs.length c] ∧ Below w.heap.size w wr) (fun _ _ i _ _ _ => rs.length - (intOf i).toNat)
      case atStart => exact ⟨0, ins0, false, by omega, rfl, rfl, HS.out, HWAY.out, Nat.le_refl _, (fun h => by cases h), (fun _ i hj => by omega), HROW.out, HBW.out⟩
      case round =>
        obtain ⟨j, ins1, a1, hj, rfl, rfl, hsts, hway, hle, hgt, hcl, hrow, hbw⟩ := hrel
        have hsw := hbw.size
        have hwl := hrow.lt
        have hlen' := hway.len RT.out
        have HW := Lib.hid hway
        have HCI := Lib.hid hcl
        have HGT := Lib.hid hgt
        have HSI := Lib.hid hsts
        have HR := Lib.hid hrow
        have hc0 := hrow.cell 0
        simp at hc0
        obtain ⟨Bz, dz, rfl⟩ := hsts.form
        rename World => wm
        clear hway hcl hgt hsts hrow
        by_cases hlt : j < rs.length
        · obtain ⟨hhs, d0, u, d1, hst⟩ := HC.out j hlt
          have d0' := (hbw.cell (p := ⟨b, off + j * 2, none⟩) (by show b < _; omega)).trans d0
          have d1' := (hbw.cell (p := ⟨b, off + j * 2 + 1, none⟩) (by show b < _; omega)).trans d1
          have hst' := hst.below hbw hh
          clear d0 d1 hst
          obtain ⟨A', c', rfl, hlc', hc', hsz', hcell'⟩ := hst'
          unfold maxLen at hc'
          have HCB := Lib.hid hcell'
          have HZB := Lib.hid hsz'
          have hbl5 := RT.out.len j hlt
          have ha := al1 wm (.cells #[.string rs[j].head, .slice A' rs[j].body.length c'] 39)
          have HBM := Lib.hid hbw
          have HA := Lib.hid ha
          have HR4 := Lib.hid (HR.out.alloc (.cells #[.string rs[j].head, .slice A' rs[j].body.length c'] 39))
          have HS4 : Hid (Sts (wm.alloc (.cells #[.string rs[j].head, .slice A' rs[j].body.length c'] 39)) _ _ _) := Lib.hid (HSI.out.below ha)
          clear hcell' hsz' hbw ha
          go_wp2
          go_loopw [5, 6, 9] (fun x ag i wr => ∃ (m : Nat) (ins : List ByteArray) (a : Bool), m ≤ rs[j].body.length ∧ i = .int .i64 (m : Int) ∧ ag = .bool a ∧ Sts wr (w.heap.size + 1) x ins ∧ WayR rs (ixOf gs) ins ∧ ins0.length ≤ ins.length ∧ (a = true → ins0.length < ins.length) ∧ (a = false → ∀ i, i < j → Shut rs (ixOf gs) ins i) ∧
            (a = false → ∀ q (hq : q < rs[j].body.length), q < m → headB rs[j].body[q] = true → inB ins rs[j].body[q] = true) ∧ Row wr wm.heap.size 39 #[.string rs[j].head, .slice A' rs[j].body.length c'] ∧ Row wr w.heap.size 25 #[.slice (some ⟨b, off, none⟩) rs.length c] ∧ Below w.heap.size w wr) (fun _ _ i _ => rs[j].body.length - (intOf i).toNat)
          case atStart => exact ⟨0, ins1, a1, by omega, rfl, rfl, HS4.out, HW.out, hle, HGT.out, HCI.out, (fun _ q _ hq => by omega), Row.made _ _ _, HR4.out, HBM.out.trans (HA.out.mono hsw)⟩
          case round =>
            obtain ⟨m, ins, a, hm, rfl, rfl, hsts, hway, hle2, hgt2, hcl2, hq2, hrr, hrow2, hbr⟩ := hrel
            have hsr := hbr.size
            have hlen2 := hway.len RT.out
            have HW2 := Lib.hid hway
            have HC2 := Lib.hid hcl2
            have HG2 := Lib.hid hgt2
            have HQ2 := Lib.hid hq2
            have HS2 := Lib.hid hsts
            have HRR := Lib.hid hrr
            have HRW := Lib.hid hrow2
            have hrl := hrr.lt
            have r0 := hrr.cell 0
            have r1 := hrr.cell 1
            have hgj := (hbr.cell (p := ⟨gb, goff + j, none⟩) (by show gb < _; omega)).trans (HGC.out j (by rw [HGL.out]; exact hlt))
            simp at r0 r1
            obtain ⟨Bx, dx, rfl⟩ := hsts.form
            have ST := HS2.out.strs (HZ.out _ HW2.out)
            clear hway hcl2 hgt2 hq2 hsts hrr hrow2
            by_cases hml : m < rs[j].body.length
            · have hjg : j < gs.length := by rw [HGL.out]; exact hlt
              have HJG := Lib.hid hjg
              cases hgd : gs[j]'hjg
              · have HSH : Hid (Shut rs (ixOf gs) ins j) := Lib.hid fun _ hx => by
                  obtain ⟨_, e⟩ := ixOf_mem.1 hx
                  rw [hgd] at e; cases e
                rw [hgd] at hgj
                clear hgd
                have HFC : Hid (a = false → ∀ i, i < j + 1 → Shut rs (ixOf gs) ins i) := Lib.hid fun h i hi => by
                  by_cases e : i = j
                  · subst e; exact HSH.out
                  · exact HC2.out h i (by omega)
                go_wp2
                go_roundw
                case rel => exact ⟨j + 1, ins, a, by omega, by go_num, rfl, HS2.out, HW2.out, hle2, HG2.out, HFC.out, HRW.out, hbr⟩
                case measure => simp [intOf]; omega
              · have HIX : Hid (j ∈ ixOf gs) := Lib.hid (ixOf_mem.2 ⟨HJG.out, hgd⟩)
                rw [hgd] at hgj
                clear hgd
                cases hin : inB ins rs[j].head
                · have HI := Lib.hid hin
                  have HFC : Hid (a = false → ∀ i, i < j + 1 → Shut rs (ixOf gs) ins i) := Lib.hid fun h i hi => by
                    by_cases e : i = j
                    · subst e; intro _ _ hx; rw [hin] at hx; cases hx
                    · exact HC2.out h i (by omega)
                  clear hin
                  go_wp2_with fail
                  refine (specIn_any _ ins rs[j].head _ _ _ ST).mono ?_
                  rintro e w1 ⟨rfl, rfl⟩
                  rw [HI.out]
                  go_wp2
                  go_roundw
                  case rel => exact ⟨j + 1, ins, a, by omega, by go_num, rfl, HS2.out, HW2.out, hle2, HG2.out, HFC.out, HRW.out, hbr⟩
                  case measure => simp [intOf]; omega
                · have HI := Lib.hid hin
                  clear hin
                  obtain ⟨b1, off1, rfl, _, hbh1, hcc1⟩ := HCB.out (by omega)
                  have hbm := HBM.out
                  have hcb := (hbr.cell (p := ⟨b1, off1 + m, none⟩) (by show b1 < _; omega)).trans ((hbm.cell (p := ⟨b1, off1 + m, none⟩) (by show b1 < _; omega)).symm.trans (hcc1 m hml))
                  have hks := HZB.out _ (List.getElem_mem hml)
                  clear hcc1 hbm
                  cases hhb : headB rs[j].body[m]
                  · have HH := Lib.hid hhb
                    clear hhb
                    go_wp2_with fail
                    refine (specIn_any _ ins rs[j].head _ _ _ ST).mono ?_
                    rintro e w1 ⟨rfl, rfl⟩
                    rw [HI.out]
                    go_wp2_with fail
                    refine (specIsHead_any _ _ hks).mono ?_
                    rintro e w1 ⟨rfl, rfl⟩
                    rw [HH.out]
                    go_wp2
                    go_roundw
                    case rel => exact ⟨m + 1, ins, a, by omega, by go_num, rfl, HS2.out, HW2.out, hle2, HG2.out, HC2.out, (fun h q hq hqm hx => by
                      by_cases e : q = m
                      · subst e; rw [HH.out] at hx; cases hx
                      · exact HQ2.out h q hq (by omega) hx), HRR.out, HRW.out, hbr⟩
                    case measure => simp [intOf]; omega
                  · have HH := Lib.hid hhb
                    clear hhb
                    cases hib : inB ins rs[j].body[m]
                    · have HIB := Lib.hid hib
                      have HWM := Lib.hid (HW2.out.more hlt HIX.out HI.out (List.getElem_mem hml) hib)
                      clear hib
                      go_wp2_with fail
                      refine (specIn_any _ ins rs[j].head _ _ _ ST).mono ?_
                      rintro e w1 ⟨rfl, rfl⟩
                      rw [HI.out]
                      go_wp2_with fail
                      refine (specIsHead_any _ _ hks).mono ?_
                      rintro e w1 ⟨rfl, rfl⟩
                      rw [HH.out]
                      go_wp2_with fail
                      refine (specIn_any _ ins rs[j].body[m] _ _ _ ST).mono ?_
                      rintro e w1 ⟨rfl, rfl⟩
                      rw [HIB.out]
                      clear ST
                      go_wp2_with (at_builtin; refine wpList_append_own _ rfl _ _ 27 rfl (w.heap.size + 1) 9 i0 (.string ByteArray.empty) 1 16 Try.underlying27 hi0 hz0 hz1 hz2 rfl (by decide) _ _ _ rfl (World.ownsRow.alloc HS2.out _) ⟨wr.heap.size, 0, none⟩ 1 1 [.string rs[j].body[m]] rfl rfl (cell_one_new _ _ _) (one_str _) (by unfold maxLen; omega) (by omega) (by simp; omega) ?_)
                      intro v1 w1 hown1 hg1 _
                      have s1 : Sts w1 (w.heap.size + 1) v1 (ins ++ [rs[j].body[m]]) := Sts.one _ hown1
                      have q1 := Tx.row_grown (HRR.out.alloc _) (World.ownsRow.alloc HS2.out _) (by decide) hg1
                      have q2 := Tx.row_grown (HRW.out.alloc _) (World.ownsRow.alloc HS2.out _) (by decide) hg1
                      have hb1 : Below w.heap.size w w1 := Tx.below_grown (hbr.trans ((al1 _ _).mono hbr.size)) (World.ownsRow.alloc HS2.out _) hg1 (by simp; omega) (by omega)
                      clear hown1 hg1
                      go_wp2
                      go_roundw
                      case rel => exact ⟨m + 1, _, true, by omega, by go_num, rfl, s1, HWM.out, by simp; omega, (fun _ => by simp; omega), (fun h => by cases h), (fun h => by cases h), q1, q2, hb1⟩
                      case measure => simp [intOf]; omega
                    · have HIB := Lib.hid hib
                      clear hib
                      go_wp2_with fail
                      refine (specIn_any _ ins rs[j].head _ _ _ ST).mono ?_
                      rintro e w1 ⟨rfl, rfl⟩
                      rw [HI.out]
                      go_wp2_with fail
                      refine (specIsHead_any _ _ hks).mono ?_
                      rintro e w1 ⟨rfl, rfl⟩
                      rw [HH.out]
                      go_wp2_with fail
                      refine (specIn_any _ ins rs[j].body[m] _ _ _ ST).mono ?_
                      rintro e w1 ⟨rfl, rfl⟩
                      rw [HIB.out]
                      go_wp2
                      go_roundw
                      case rel => exact ⟨m + 1, ins, a, by omega, by go_num, rfl, HS2.out, HW2.out, hle2, HG2.out, HC2.out, (fun h q hq hqm hx => by
                        by_cases e : q = m
                        · subst e; exact HIB.out
                        · exact HQ2.out h q hq (by omega) hx), HRR.out, HRW.out, hbr⟩
                      case measure => simp [intOf]; omega
            · have HFC : Hid (a = false → ∀ i, i < j + 1 → Shut rs (ixOf gs) ins i) := Lib.hid fun h i hi => by
                by_cases e : i = j
                · subst e
                  intro _ _ _ s hs hx
                  obtain ⟨q, hq, rfl⟩ := List.getElem_of_mem hs
                  exact HQ2.out h q hq (by omega) hx
                · exact HC2.out h i (by omega)
              go_wp2
              go_roundw
              case rel => exact ⟨j + 1, ins, a, by omega, by go_num, rfl, HS2.out, HW2.out, hle2, HG2.out, HFC.out, HRW.out, hbr⟩
              case measure => simp [intOf]; omega
        · have HFC : Hid (a1 = false → ∀ i, i < rs.length → Shut rs (ixOf gs) ins1 i) := Lib.hid fun h i hi => HCI.out h i (by omega)
          go_wp2
          go_roundw
          case rel => exact ⟨ins1, a1, rfl, HSI.out, HW.out, HFC.out, HR.out, hbw⟩
          case measure =>
            cases a1
            · simp; omega
            · have := HGT.out rfl
              simp; omega
end Go.Proofs.Ytmhdbjoljonhdaa

/- The walk of the model's Reachable; a list of yes and no that is filled place by place. -/
namespace Go.Proofs.Ytmhdbjoljonhdaa
open Go.RowKit

theorem Try.infoBool : (Try.prog.info? 4).map (fun i => (i.zero, i.size, i.bytes)) = some (some (.bool false), 1, 1) := by kernel_rfl
/-- k of a list of yes and no are laid in block g -/
def GoodTo (w : World) (g : Nat) (gs : List Bool) (k : Nat) : Prop :=
  ∃ cur, Row w g 4 cur ∧ cur.size = gs.length ∧ ∀ i (h : i < gs.length), i < k → cur[i]? = some (.bool gs[i])
theorem GoodTo.start (w : World) (gs : List Bool) (z : Array Value) (n : Nat) (hn : n = gs.length) : GoodTo (w.alloc (.cells (madeCells z n) 4)) w.heap.size gs 0 := by
  subst hn
  exact ⟨_, Row.made w _ _, size_madeCells _ _, fun _ _ h => by omega⟩
theorem GoodTo.row {w : World} {g k : Nat} {gs : List Bool} (h : GoodTo w g gs k) : ∃ cur, Row w g 4 cur ∧ cur.size = gs.length := by
  obtain ⟨cur, h1, h2, _⟩ := h
  exact ⟨cur, h1, h2⟩
theorem GoodTo.step {w : World} {g k : Nat} {gs : List Bool} (h : GoodTo w g gs k) (hk : k < gs.length) {b : Bool} (hb : gs[k] = b) : GoodTo (w.setCell ⟨g, k, none⟩ (.bool b)) g gs (k + 1) := by
  subst hb
  obtain ⟨cur, h1, h2, h3⟩ := h
  refine ⟨_, h1.put k _, by simp [h2], fun i hi hik => ?_⟩
  by_cases e : i = k
  · subst e
    rw [Array.getElem?_setIfInBounds_self_of_lt (by omega)]
  · rw [Array.getElem?_setIfInBounds_ne (by omega)]
    exact h3 i hi (by omega)
theorem GoodTo.below {w w' : World} {g k B : Nat} {gs : List Bool} (h : GoodTo w g gs k) (b : Below B w w') (hB : g < B) : GoodTo w' g gs k := by
  obtain ⟨cur, h1, h2, h3⟩ := h
  exact ⟨cur, h1.below b hB, h2, h3⟩
theorem GoodTo.done {w : World} {g : Nat} {gs : List Bool} (h : GoodTo w g gs gs.length) (hm : gs.length ≤ maxLen) {n : Nat} (hn : n = gs.length) : BoolsAt w (g + 1) (.slice (some ⟨g, 0, none⟩) n n) gs := by
  subst hn
  obtain ⟨cur, h1, h2, h3⟩ := h
  exact ⟨_, _, rfl, Nat.le_refl _, hm, fun _ => ⟨g, 0, rfl, by omega, fun i hi => by rw [Nat.zero_add, h1.cell]; exact h3 i hi hi⟩⟩

theorem makeBools (n : Nat) (hn : n ≤ 1000) (W : World) : (Instr.makeSlice 84 (.int .i64 (n : Int)) (.int .i64 (n : Int))).run Try.prog W = .ok (.slice (some ⟨W.heap.size, 0, none⟩) n n) (W.alloc (.cells (madeCells #[.bool false] n) 4)) := by
  obtain ⟨i0, hi0, hz0, hz1, hz2⟩ := info_parts Try.infoBool
  have := run_make (P := Try.prog) W 84 4 i0 _ Try.underlying84 hi0 hz0 .i64 .i64 n n (by omega) (by omega) (by rw [hz2]; omega) (by omega)
  simpa [hz1, Value.cells] using this

theorem ixOf_true (n : Nat) : ixOf (List.replicate n true) = List.range n := by
  unfold ixOf
  rw [List.length_replicate]
  apply List.filter_eq_self.2
  intro i hi
  rw [List.mem_range] at hi
  simp [hi]
theorem reachOf_f {rs : List RuleD} (h : gramB rs = false) : reachOf rs = [] := by unfold reachOf; rw [headsOf_f h]; rfl
theorem reachOf_t {rs : List RuleD} (h : gramB rs = true) : reachOf rs = reachBy rs (ixOf (List.replicate rs.length true)) := by
  unfold reachOf reachBy; rw [headsOf_t h, ixOf_true]; rfl

set_option maxRecDepth 100000 in
set_option maxHeartbeats 2000000 in
theorem specReachable_any (rs : List RuleD) (v : Value) (lo hi : Nat) (w : World) (h : Rules w lo hi v rs) (hh : hi ≤ w.heap.size) :
    Calls Try.prog 20 #[.agg #[v]] w (MadeS w (reachOf rs)) := by
  have HV := Lib.hid h
  obtain ⟨A, c, rfl, -⟩ := h
  have hb := al1 w (.cells #[.slice A rs.length c] 25)
  have R0 := Row.made w 25 #[.slice A rs.length c]
  cases hq : gramB rs
  · rw [reachOf_f hq]
    have HQ := Lib.hid hq
    clear hq
    go_enter Try.func20, Try.ntmps20
    go_wp2_with fail
    refine (specGramRight_any rs _ lo hi _ (HV.out.below hb hh) (by simp; omega)).mono ?_
    rintro e w1 ⟨rfl, b1⟩
    rw [HQ.out]
    go_wp2
    go_ret
    exact ⟨_, 0, rfl, ⟨_, 0, rfl, Nat.le_refl _, by unfold maxLen; omega, by simp, fun h => by simp at h⟩, fun hn => absurd rfl hn, (hb.trans (b1.mono (by simp))).trans ((al1 w1 _).mono (hb.trans (b1.mono (by simp))).size)⟩
  · rw [reachOf_t hq]
    have HQ := Lib.hid hq
    have hl20 := (Rt.of hq).few
    have hmk := makeBools rs.length (by omega)
    have HL : Hid (rs.length = (List.replicate rs.length true).length) := Lib.hid (by simp)
    clear hq
    go_enter Try.func20, Try.ntmps20
    go_wp2_with fail
    refine (specGramRight_any rs _ lo hi _ (HV.out.below hb hh) (by simp; omega)).mono ?_
    rintro e w1 ⟨rfl, b1⟩
    rw [HQ.out]
    have R1 := R0.below b1 (by simp)
    have c1 := R1.cell 0
    simp at c1
    have hb1 := hb.trans (b1.mono (by simp))
    have z1 := hb1.size
    have hl1 := R1.lt
    clear b1 hb R0
    go_wp2
    go_loopw [4, 15] (fun _ i wr => ∃ k : Nat, k ≤ rs.length ∧ i = .int .i64 k ∧ GoodTo wr w1.heap.size (List.replicate rs.length true) k ∧ Below w1.heap.size w1 wr) (fun _ i _ => rs.length - (intOf i).toNat)
    case atStart => exact ⟨0, by omega, rfl, GoodTo.start _ _ _ _ HL.out, al1 _ _⟩
    case round =>
      obtain ⟨k, hk, rfl, hgd, hbw⟩ := hrel
      have hsw := hbw.size
      obtain ⟨cur, hrow, hcs⟩ := hgd.row
      rw [← HL.out] at hcs
      have hgl := hrow.lt
      by_cases hlt : k < rs.length
      · obtain ⟨u0, hd0⟩ := hrow.there (show k < cur.size by omega)
        have hf0 := hrow.free k
        have hstep := hgd.step (b := true) (by rw [← HL.out]; exact hlt) (by simp)
        clear hcs hrow hgd
        go_wp2
        go_roundw
        case rel => exact ⟨k + 1, by omega, by go_num, hstep, hbw.setCell (Nat.le_refl _) _⟩
        case measure => simp [intOf]; omega
      · have hks : k = rs.length := by omega
        subst hks
        have cW := (R1.below hbw hl1).cell 0
        simp at cW
        have hbW := hb1.trans (hbw.mono z1)
        have BG := (show GoodTo _ w1.heap.size _ (List.replicate rs.length true).length by rw [← HL.out]; exact hgd).done (by rw [← HL.out]; unfold maxLen; omega) HL.out
        have HBG := Lib.hid BG
        clear hcs hrow hgd BG
        go_wp2_with fail
        refine (specReach_any rs _ _ _ lo hi (w1.heap.size + 1) _ (HV.out.below hbW hh) (by omega) HQ.out HBG.out (by omega) HL.out.symm).mono ?_
        rintro e w2 ⟨u, g, rfl, ho, hg, b2⟩
        go_wp2
        go_ret
        exact ⟨u, g, rfl, ho, fun hn => by have := hg hn; omega, hbW.trans (b2.mono (by omega))⟩
end Go.Proofs.Ytmhdbjoljonhdaa

/- The model's table in memory; the walks of l04Text and of at. -/
namespace Go.Proofs.Ytmhdbjoljonhdaa
open Go.RowKit

def cellsB (f : Nat → Bool) (n : Nat) : Array Value := ((List.range n).map fun q => Value.bool (f q)).toArray
theorem cellsB_size (f : Nat → Bool) (n : Nat) : (cellsB f n).size = n := by simp [cellsB]
theorem cellsB_get {f : Nat → Bool} {n q : Nat} (h : q < n) : (cellsB f n)[q]? = some (.bool (f q)) := by simp [cellsB, h]
theorem cellsB_put (f : Nat → Bool) (n q : Nat) (b : Bool) : (cellsB f n).setIfInBounds q (.bool b) = cellsB (fun p => if p = q then b else f p) n := by
  apply Array.ext_getElem?
  intro i
  by_cases hi : i < n
  · rw [cellsB_get hi]
    by_cases e : q = i
    · subst e
      rw [Array.getElem?_setIfInBounds_self_of_lt (by rw [cellsB_size]; exact hi)]; simp
    · rw [Array.getElem?_setIfInBounds_ne e, cellsB_get hi]; simp [Ne.symm e]
  · rw [Array.getElem?_eq_none (by rw [Array.size_setIfInBounds, cellsB_size]; omega), Array.getElem?_eq_none (by rw [cellsB_size]; omega)]
theorem cellsB_congr {f g : Nat → Bool} {n : Nat} (h : ∀ q, q < n → f q = g q) : cellsB f n = cellsB g n := by
  unfold cellsB
  congr 1
  apply List.map_congr_left
  intro q hq
  rw [h q (List.mem_range.1 hq)]
theorem cellsB_made (n : Nat) : madeCells #[.bool false] n = cellsB (fun _ => false) n := by
  apply Array.ext_getElem?
  intro i
  by_cases hi : i < n
  · rw [cellsB_get hi]; simp [madeCells, hi, Nat.mod_one]
  · rw [Array.getElem?_eq_none (by rw [size_madeCells]; omega), Array.getElem?_eq_none (by rw [cellsB_size]; omega)]
open Classical in
noncomputable def fB (P : Nat → Prop) : Nat → Bool := fun q => decide (P q)
theorem fB_t {P : Nat → Prop} {q : Nat} (h : P q) : fB P q = true := by simp [fB, h]
theorem fB_f {P : Nat → Prop} {q : Nat} (h : ¬ P q) : fB P q = false := by simp [fB, h]
theorem fB_iff {P : Nat → Prop} {q : Nat} : fB P q = true ↔ P q := by simp [fB]
theorem fB_congr {P Q : Nat → Prop} {n : Nat} (h : ∀ q, q < n → (P q ↔ Q q)) : cellsB (fB P) n = cellsB (fB Q) n := cellsB_congr fun q hq => by
  rw [Bool.eq_iff_iff, fB_iff, fB_iff]; exact h q hq

/-- the table stands at p -/
structure TabAt (w : World) (p : Nat) (A : Option Addr) (c G cG hi : Nat) (hs : List ByteArray) (R : List Nat) (T : TabF) : Prop where
  box : Row w p 110 #[.slice A hs.length c, .slice (some ⟨G, 0, none⟩) hs.length cG]
  heads : Strs w 0 hi (.slice A hs.length c) hs
  cap : hs.length ≤ cG ∧ cG ≤ maxLen
  len : R.length = hs.length
  ins : ∀ i (h : i < R.length), w.cell? ⟨G, i, none⟩ = some (.slice (some ⟨R[i], 0, none⟩) 169 169)
  rows : ∀ i (h : i < R.length), Row w R[i] 4 (cellsB (T i) 169)
  apart : R.Nodup
  lt : G < w.heap.size ∧ hi ≤ w.heap.size
section
variable {w w' : World} {p : Nat} {A : Option Addr} {c G cG hi : Nat} {hs : List ByteArray} {R : List Nat} {T : TabF}
theorem TabAt.below (h : TabAt w p A c G cG hi hs R T) (k : Below w.heap.size w w') : TabAt w' p A c G cG hi hs R T :=
  ⟨h.box.below k h.box.lt, h.heads.below k h.lt.2, h.cap, h.len, fun i hi => (k.cell (p := ⟨G, i, none⟩) h.lt.1).trans (h.ins i hi), fun i hi => (h.rows i hi).below k (h.rows i hi).lt, h.apart, by have := k.size; have := h.lt; exact ⟨by omega, by omega⟩⟩
end
open Classical in
noncomputable def atZ (hs : List ByteArray) (s : ByteArray) : Int := if s ∈ hs then (hIx hs s : Int) else -1
theorem atZ_in {hs : List ByteArray} {s : ByteArray} (h : s ∈ hs) : atZ hs s = (hIx hs s : Int) := by unfold atZ; rw [if_pos h]
theorem atZ_out {hs : List ByteArray} {s : ByteArray} (h : s ∉ hs) : atZ hs s = -1 := by unfold atZ; rw [if_neg h]

set_option maxRecDepth 100000 in
set_option maxHeartbeats 1000000 in
theorem tabAt_any (hs : List ByteArray) (s : ByteArray) (p hi : Nat) (A : Option Addr) (c : Nat) (u : Value) (w : World) (hr : Row w p 110 #[.slice A hs.length c, u]) (hS : Strs w 0 hi (.slice A hs.length c) hs) :
    Calls Try.prog 85 #[.pointer (some ⟨p, 0, none⟩), .string s] w fun e w' => e = .returned (.int .i64 (atZ hs s)) ∧ w = w' := by
  have c0 := hr.cell 0
  simp at c0
  have lp := hr.lt
  have hcm : hs.length ≤ c ∧ c ≤ maxLen := by
    obtain ⟨A', c', e, h1, h2, _⟩ := hS
    injection e with _ _ e2
    subst e2
    exact ⟨h1, h2⟩
  unfold maxLen at hcm
  have HS := Lib.hid hS
  clear hr hS
  go_enter Try.func85, Try.ntmps85
  go_wp2
  go_loop [5] (fun x => ∃ k : Nat, k ≤ hs.length ∧ x = .int .i64 (k : Int) ∧ ∀ j (h : j < hs.length), j < k → hs[j] ≠ s) (fun x => hs.length - (intOf x).toNat)
  case atStart => exact ⟨0, by omega, rfl, fun j _ hj => by omega⟩
  case round =>
    obtain ⟨k, hk, rfl, hall⟩ := hrel
    have HA := Lib.hid hall
    clear hall
    by_cases hlt : k < hs.length
    · obtain ⟨b, off, rfl, hbh, hlc, hcm2, hck⟩ := HS.out.at hlt
      by_cases he : hs[k] = s
      · have d1 : (hs[k].toList == s.toList) = true := by rw [list_eqH, decide_eq_true he]
        have HE := Lib.hid (hIx_first hlt he HA.out)
        have HM : Hid (s ∈ hs) := Lib.hid (he ▸ List.getElem_mem hlt)
        clear he
        go_wp2
        go_ret
        refine ⟨?_, rfl⟩
        rw [atZ_in HM.out, HE.out]
        rfl
      · have d1 : (hs[k].toList == s.toList) = false := by rw [list_eqH, decide_eq_false he]
        go_wp2
        go_round
        case rel => exact ⟨k + 1, by omega, by go_num, fun j hj hjk => by
          by_cases e : j = k
          · subst e; exact he
          · exact HA.out j hj (by omega)⟩
        case measure => simp [intOf]; omega
    · have HN : Hid (s ∉ hs) := Lib.hid fun hm => by
        obtain ⟨i, hi, e⟩ := List.getElem_of_mem hm
        exact HA.out i hi (by omega) e
      go_wp2
      go_ret
      refine ⟨?_, rfl⟩
      rw [atZ_out HN.out]
      rfl

set_option maxRecDepth 100000 in
set_option maxHeartbeats 1000000 in
theorem specText_any (t : List ByteArray) (v : Value) (lo hi : Nat) (w : World) (h : Strs w lo hi v t) (hh : hi ≤ w.heap.size) :
    Calls Try.prog 82 #[v] w fun e w' => e = .returned (.bool (textB t)) ∧ Below w.heap.size w w' := by
  obtain ⟨A, c, rfl, hlc, hc, hsz, hcell⟩ := h
  unfold maxLen at hc
  have HC := Lib.hid hcell
  have HZ := Lib.hid hsz
  clear hcell hsz
  go_enter Try.func82, Try.ntmps82
  go_wp2
  go_loopw [3] (fun x wr => ∃ j : Nat, j ≤ t.length ∧ j ≤ 13 ∧ x = .int .i64 (j : Int) ∧ (∀ i (h : i < t.length), i < j → tokB t[i] = true) ∧ Below w.heap.size w wr) (fun x _ => t.length - (intOf x).toNat)
  case atStart => exact ⟨0, by omega, by omega, rfl, fun i _ h => by omega, Below.refl _ _⟩
  case round =>
    obtain ⟨j, hj, hj13, rfl, hall, hbw⟩ := hrel
    have hsw := hbw.size
    have HA := Lib.hid hall
    clear hall
    by_cases hlt : j < t.length
    · by_cases hl12 : j ≤ 12
      · obtain ⟨b, off, rfl, _, hbh, hcc⟩ := HC.out (by omega)
        have hck := (hbw.cell (p := ⟨b, off + j, none⟩) (by show b < _; omega)).trans (hcc j hlt)
        have hsz := HZ.out _ (List.getElem_mem hlt)
        have i1 : (j : Int) ≤ 12 := by omega
        clear hcc
        cases ht : tokB t[j]
        · have HT := Lib.hid ht
          clear ht
          go_wp2_with fail
          refine (specIsToken_any _ _ hsz).mono ?_
          rintro _ w1 ⟨rfl, rfl⟩
          rw [HT.out]
          go_wp2
          go_ret
          exact ⟨ret_bool (textB_no hlt HT.out).symm, hbw⟩
        · have HT := Lib.hid ht
          clear ht
          go_wp2_with fail
          refine (specIsToken_any _ _ hsz).mono ?_
          rintro _ w1 ⟨rfl, rfl⟩
          rw [HT.out]
          go_wp2
          go_roundw
          case rel => exact ⟨j + 1, by omega, by omega, by go_num, (fun i hi hl => by
            by_cases e : i = j
            · subst e; exact HT.out
            · exact HA.out i hi (by omega)), hbw⟩
          case measure => simp [intOf]; omega
      · have i1 : ¬ (j : Int) ≤ 12 := by omega
        have i2 : ¬ (t.length : Int) ≤ 12 := by omega
        have HF : Hid (textB t = false) := Lib.hid (by rw [Bool.eq_false_iff]; exact fun e => by have := ((textB_iff t).1 e).1; omega)
        go_wp2
        go_ret
        refine ⟨ret_bool ?_, hbw⟩
        rw [HF.out]
    · by_cases hlen : t.length ≤ 12
      · have i2 : (t.length : Int) ≤ 12 := by omega
        have HF : Hid (textB t = true) := Lib.hid ((textB_iff t).2 ⟨hlen, fun s hs => by
          obtain ⟨i, hi, rfl⟩ := List.getElem_of_mem hs
          exact HA.out i hi (by omega)⟩)
        go_wp2
        go_ret
        refine ⟨ret_bool ?_, hbw⟩
        rw [HF.out]
      · have i2 : ¬ (t.length : Int) ≤ 12 := by omega
        have HF : Hid (textB t = false) := Lib.hid (by rw [Bool.eq_false_iff]; exact fun e => by have := ((textB_iff t).1 e).1; omega)
        go_wp2
        go_ret
        refine ⟨ret_bool ?_, hbw⟩
        rw [HF.out]
end Go.Proofs.Ytmhdbjoljonhdaa
