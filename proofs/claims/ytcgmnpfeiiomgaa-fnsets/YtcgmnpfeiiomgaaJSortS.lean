import Derived.Test.YtcgmnpfeiiomgaaJKMap
import Derived.Test.YtcgmnpfeiiomgaaJCutI
import Derived.Test.YtcgmnpfeiiomgaaCom
import Derived.Deep.AppendLies
/- The model's table of what heads come to, as data: where a body may end; when nothing is left to be filled in, the table tells all. No program stands in this text. -/
namespace Go.Proofs.Ytcgmnpfeiiomgaa
open Go.RowKit

def hIx (hs : List ByteArray) (s : ByteArray) : Nat := hs.findIdx fun t => decide (t = s)
theorem hIx_lt {hs : List ByteArray} {s : ByteArray} (h : s ∈ hs) : hIx hs s < hs.length := List.findIdx_lt_length_of_exists ⟨s, h, by simp⟩
theorem hIx_at {hs : List ByteArray} {s : ByteArray} (h : s ∈ hs) : hs[hIx hs s]'(hIx_lt h) = s := by
  have := List.findIdx_getElem (w := hIx_lt h)
  exact of_decide_eq_true this
theorem hIx_first {hs : List ByteArray} {s : ByteArray} {k : Nat} (hk : k < hs.length) (e : hs[k] = s) (hn : ∀ j (h : j < hs.length), j < k → hs[j] ≠ s) : hIx hs s = k := by
  have h := hIx_lt (e ▸ List.getElem_mem hk)
  have h2 := hIx_at (e ▸ List.getElem_mem hk)
  rcases Nat.lt_trichotomy (hIx hs s) k with h3 | h3 | h3
  · exact absurd h2 (hn _ h h3)
  · exact h3
  · have := List.not_of_lt_findIdx h3
    simp [e] at this
theorem hIx_get {hs : List ByteArray} (hn : hs.Nodup) {i : Nat} (hi : i < hs.length) : hIx hs hs[i] = i :=
  hIx_first hi rfl fun j hj hl e => (List.pairwise_iff_getElem.1 hn) j i hj hi hl e
abbrev TabF := Nat → Nat → Bool
/-- by one symbol more, from places of which P holds -/
def stepP (T : TabF) (hs t : List ByteArray) (s : ByteArray) (P : Nat → Prop) (e : Nat) : Prop :=
  e ≤ t.length ∧ ∃ k, k ≤ t.length ∧ P k ∧ ((s ∈ hs ∧ k ≤ e ∧ T (hIx hs s) (13 * k + e) = true) ∨ (s ∉ hs ∧ t[k]? = some s ∧ e = k + 1))
def endP (T : TabF) (hs t : List ByteArray) (body : List ByteArray) (P : Nat → Prop) : Nat → Prop := body.foldl (fun P s => stepP T hs t s P) P
theorem endP_snoc {T : TabF} {hs t body : List ByteArray} {s : ByteArray} {P : Nat → Prop} : endP T hs t (body ++ [s]) P = stepP T hs t s (endP T hs t body P) := by unfold endP; rw [List.foldl_append]; rfl
theorem endP_take {T : TabF} {hs t body : List ByteArray} {P : Nat → Prop} {j : Nat} (h : j < body.length) : endP T hs t (body.take (j + 1)) P = stepP T hs t body[j] (endP T hs t (body.take j) P) := by rw [List.take_succ_eq_append_getElem h, endP_snoc]
/-- all that the table tells is so -/
def TSound (rs : List RuleD) (t : List ByteArray) (T : TabF) : Prop := ∀ i (h : i < (hsOf rs).length) k e, k ≤ t.length → e ≤ t.length → T i (13 * k + e) = true → Der (· ∈ rs) t [(hsOf rs)[i]] k e
/-- nothing is left to be filled in -/
def TClosed (rs : List RuleD) (t : List ByteArray) (T : TabF) : Prop := ∀ i (h : i < rs.length) k e, k ≤ t.length → e ≤ t.length → endP T (hsOf rs) t rs[i].body (· = k) e → T (hIx (hsOf rs) rs[i].head) (13 * k + e) = true
section
variable {rs : List RuleD} {t : List ByteArray} {T : TabF}
theorem TSound.ends (S : TSound rs t T) {i : Nat} : ∀ (body : List ByteArray) (e : Nat), endP T (hsOf rs) t body (· = i) e → Der (· ∈ rs) t body i e := by
  intro body
  have key : ∀ (r : List ByteArray) (e : Nat), endP T (hsOf rs) t r.reverse (· = i) e → Der (· ∈ rs) t r.reverse i e := by
    intro r
    induction r with
    | nil => rintro e rfl; exact .nil _
    | cons s r ih =>
      intro e h
      rw [List.reverse_cons] at h ⊢
      rw [endP_snoc] at h
      obtain ⟨he, k, hk, hP, h⟩ := h
      have d := ih k hP
      rcases h with ⟨hm, _, ht⟩ | ⟨_, ht, rfl⟩
      · have := S _ (hIx_lt hm) k e hk he ht
        rw [hIx_at hm] at this
        exact d.append this
      · exact d.snoc_tok ht
  have := key body.reverse
  rwa [List.reverse_reverse] at this
theorem TClosed.walk (C : TClosed rs t T) (hh : ∀ s ∈ t, s ∉ hsOf rs) {l : List ByteArray} {i k : Nat} (d : Der (· ∈ rs) t l i k) : ∀ P : Nat → Prop, P i → i ≤ t.length → endP T (hsOf rs) t l P k := by
  induction d with
  | nil => exact fun P h _ => h
  | @tok s l i k h _ ih =>
    intro P hP hi
    have hl := (List.getElem?_eq_some_iff.1 h).1
    show endP T (hsOf rs) t l (stepP T (hsOf rs) t s P) k
    exact ih _ ⟨by omega, i, hi, hP, .inr ⟨hh s (List.mem_of_getElem? h), h, rfl⟩⟩ (by omega)
  | @head r l i j k hr d1 d2 ih1 ih2 =>
    intro P hP hi
    have hj := d1.end hi
    obtain ⟨q, hq, rfl⟩ := List.getElem_of_mem hr
    have hT := C q hq i j hi hj (ih1 _ rfl hi)
    show endP T (hsOf rs) t l (stepP T (hsOf rs) t rs[q].head P) k
    exact ih2 _ ⟨hj, i, hi, hP, .inl ⟨hs_all hq, d1.le, hT⟩⟩ hj
/-- the table tells just what is come to -/
theorem tab_tells (S : TSound rs t T) (C : TClosed rs t T) (hh : ∀ s ∈ t, s ∉ hsOf rs) {i : Nat} (hi : i < (hsOf rs).length) {k e : Nat} (hk : k ≤ t.length) (he : e ≤ t.length) : T i (13 * k + e) = true ↔ Der (· ∈ rs) t [(hsOf rs)[i]] k e := by
  constructor
  · exact S i hi k e hk he
  · intro d
    obtain ⟨r, hr, hrh, d2⟩ := d.head_inv fun s hs e => hh s (List.mem_of_getElem? hs) (e ▸ List.getElem_mem hi)
    obtain ⟨q, hq, rfl⟩ := List.getElem_of_mem hr
    have := C q hq k e hk he (C.walk hh d2 _ rfl hk)
    rw [hrh, hIx_get (show (hsOf rs).Nodup from headsTo_nodup rs _) hi] at this
    exact this
theorem ends_tells (S : TSound rs t T) (C : TClosed rs t T) (hh : ∀ s ∈ t, s ∉ hsOf rs) {l : List ByteArray} {i k : Nat} (hi : i ≤ t.length) : endP T (hsOf rs) t l (· = i) k ↔ Der (· ∈ rs) t l i k :=
  ⟨fun h => S.ends l k h, fun d => C.walk hh d _ rfl hi⟩
end
theorem tok_no_head {rs : List RuleD} {t : List ByteArray} (R : Rt rs) (ht : ∀ s ∈ t, tokB s = true) : ∀ s ∈ t, s ∉ hsOf rs := fun s hs hm => by
  have := ht s hs
  rw [head_no_tok (R.hs_head hm)] at this
  cases this
/-- one place is filled in -/
def setT (T : TabF) (i q : Nat) : TabF := fun a b => if a = i ∧ b = q then true else T a b
/-- how many places are left -/
def emptyAt (f : Nat → Bool) : Nat → Nat
  | 0 => 0
  | n + 1 => emptyAt f n + if f n = true then 0 else 1
def emptyIn (T : TabF) : Nat → Nat
  | 0 => 0
  | n + 1 => emptyIn T n + emptyAt (T n) 169
theorem emptyAt_same {f g : Nat → Bool} {n : Nat} (h : ∀ q, q < n → f q = g q) : emptyAt f n = emptyAt g n := by
  induction n with
  | zero => rfl
  | succ n ih => unfold emptyAt; rw [ih fun q hq => h q (by omega), h n (by omega)]
theorem emptyAt_less {f g : Nat → Bool} {n q : Nat} (hq : q < n) (hf : f q = false) (hg : g q = true) (h : ∀ p, p ≠ q → g p = f p) : emptyAt g n + 1 = emptyAt f n := by
  induction n with
  | zero => omega
  | succ n ih =>
    by_cases e : q = n
    · subst e
      unfold emptyAt
      rw [hf, hg, emptyAt_same (f := g) (g := f) fun p hp => h p (by omega)]
      simp
    · unfold emptyAt
      have := ih (by omega)
      rw [h n (fun e' => e e'.symm)]
      omega
theorem setT_same (T : TabF) (i q : Nat) : setT T i q i q = true := by simp [setT]
theorem setT_row {T : TabF} {i q a : Nat} (h : a ≠ i) : setT T i q a = T a := by funext b; simp [setT, h]
theorem setT_cell {T : TabF} {i q b : Nat} (h : b ≠ q) : setT T i q i b = T i b := by simp [setT, h]
theorem emptyIn_same {T U : TabF} {n : Nat} (h : ∀ i, i < n → U i = T i) : emptyIn U n = emptyIn T n := by
  induction n with
  | zero => rfl
  | succ n ih => unfold emptyIn; rw [ih fun i hi => h i (by omega), h n (by omega)]
theorem emptyIn_less {T : TabF} {i q n : Nat} (hi : i < n) (hq : q < 169) (hf : T i q = false) : emptyIn (setT T i q) n + 1 = emptyIn T n := by
  induction n with
  | zero => omega
  | succ n ih =>
    by_cases e : i = n
    · subst e
      unfold emptyIn
      have h1 : emptyIn (setT T i q) i = emptyIn T i := emptyIn_same fun a ha => setT_row (by omega)
      rw [h1]
      have := emptyAt_less (f := T i) (g := setT T i q i) hq hf (setT_same T i q) fun p hp => setT_cell hp
      omega
    · unfold emptyIn
      rw [setT_row (a := n) (fun h => e h.symm)]
      have := ih (by omega)
      omega
theorem setT_mono {T : TabF} {i q a b : Nat} (h : T a b = true) : setT T i q a b = true := by unfold setT; split <;> simp [h]
theorem TSound.set {rs : List RuleD} {t : List ByteArray} {T : TabF} (S : TSound rs t T) {i k e : Nat} (hk : k ≤ t.length) (he : e ≤ t.length) (h12 : t.length ≤ 12) (hd : ∀ h : i < (hsOf rs).length, Der (· ∈ rs) t [(hsOf rs)[i]] k e) : TSound rs t (setT T i (13 * k + e)) := by
  intro a ha k' e' hk' he' h
  unfold setT at h
  split at h
  · rename_i hh
    obtain ⟨rfl, h2⟩ := hh
    obtain rfl : k' = k := by omega
    obtain rfl : e' = e := by omega
    exact hd ha
  · exact S a ha k' e' hk' he' h
end Go.Proofs.Ytcgmnpfeiiomgaa

/- The walks of the model's l03All, l03Sort, l03Fix, Nullable and Productive. -/
namespace Go.Proofs.Ytcgmnpfeiiomgaa
open Go.RowKit

theorem Sts.below {w w' : World} {base : Nat} {v : Value} {ss : List ByteArray} (h : Sts w base v ss) (k : Below w.heap.size w w') : Sts w' base v ss := by
  refine ⟨h.1, ?_⟩
  rcases h.2 with a | ⟨g, cap, cur, rfl, hb, hh, r⟩
  · exact .inl a
  · have hr : Row w g 9 cur := hh
    exact .inr ⟨g, cap, cur, rfl, hb, (k.block g hr.lt).trans hh, r⟩
theorem Sts.shape {w : World} {base : Nat} {v : Value} {ss : List ByteArray} (h : Sts w base v ss) : ∃ B d, v = .slice B ss.length d := by
  rcases h.2 with ⟨rfl, h0⟩ | ⟨g, cap, cur, rfl, _⟩
  · exact ⟨none, 0, by rw [h0]⟩
  · exact ⟨_, _, rfl⟩
/-- is all of a body among some, or a token, if these count? -/
def allB (body some : List ByteArray) (tok : Bool) : Bool := body.all fun s => inB some s || (tok && tokB s)
theorem allB_iff (body ins : List ByteArray) (tok : Bool) : allB body ins tok = true ↔ ∀ s ∈ body, (tok && tokB s) = false → s ∈ ins := by
  unfold allB
  rw [List.all_eq_true]
  constructor
  · intro h s hs ht
    have := h s hs
    rw [ht, Bool.or_false] at this
    exact (inB_iff _ _).1 this
  · intro h s hs
    cases ht : (tok && tokB s)
    · rw [(inB_iff _ _).2 (h s hs ht), Bool.true_or]
    · rw [Bool.or_true]
theorem allB_no {body ins : List ByteArray} {tok : Bool} {k : Nat} (h : k < body.length) (h1 : (inB ins body[k] || (tok && tokB body[k])) = false) : allB body ins tok = false := by
  rw [Bool.eq_false_iff]
  intro e
  unfold allB at e
  rw [List.all_eq_true] at e
  have := e _ (List.getElem_mem h)
  rw [h1] at this; cases this
theorem allB_yes {body ins : List ByteArray} {tok : Bool} (h : ∀ k (h : k < body.length), (inB ins body[k] || (tok && tokB body[k])) = true) : allB body ins tok = true := by
  unfold allB
  rw [List.all_eq_true]
  intro s hs
  obtain ⟨k, hk, rfl⟩ := List.getElem_of_mem hs
  exact h k hk

set_option maxRecDepth 100000 in
set_option maxHeartbeats 2000000 in
theorem specAll_any (v x : Value) (body ins : List ByteArray) (tok : Bool) (lo hi lo' hi' : Nat) (w : World) (h : Strs w lo hi v body) (hx : Strs w lo' hi' x ins) :
    Calls Try.prog 155 #[v, x, .bool tok] w fun e w' => e = .returned (.bool (allB body ins tok)) ∧ w = w' := by
  have HX := Lib.hid hx
  obtain ⟨X, xc, rfl, -⟩ := hx
  obtain ⟨A, c, rfl, hlc, hc, hsz, hcell⟩ := h
  unfold maxLen at hc
  have HC := Lib.hid hcell
  have HZ := Lib.hid hsz
  clear hcell hsz
  go_enter Try.func155, Try.ntmps155
  go_wp2
  go_loop [7] (fun i => ∃ k : Nat, k ≤ body.length ∧ i = .int .i64 k ∧ ∀ j (h : j < body.length), j < k → (inB ins body[j] || (tok && tokB body[j])) = true) (fun i => body.length - (intOf i).toNat)
  case atStart => exact ⟨0, by omega, rfl, fun j _ hj => by omega⟩
  case round =>
    obtain ⟨k, hk, rfl, hall⟩ := hrel
    have HA := Lib.hid hall
    clear hall
    by_cases hlt : k < body.length
    · obtain ⟨b, off, rfl, _, _, hcc⟩ := HC.out (by omega)
      have hck := hcc k hlt
      have hks := HZ.out _ (List.getElem_mem hlt)
      clear hcc
      cases hi : inB ins body[k]
      · have HI := Lib.hid hi
        clear hi
        cases tok
        · go_wp2_with fail
          refine (specIn_any _ ins body[k] lo' hi' _ HX.out).mono ?_
          rintro e w1 ⟨rfl, rfl⟩
          rw [HI.out]
          go_wp2
          go_ret
          exact ⟨ret_bool (allB_no hlt (by rw [HI.out]; rfl)).symm, rfl⟩
        · cases ht : tokB body[k]
          · have HT := Lib.hid ht
            clear ht
            go_wp2_with fail
            refine (specIn_any _ ins body[k] lo' hi' _ HX.out).mono ?_
            rintro e w1 ⟨rfl, rfl⟩
            rw [HI.out]
            go_wp2_with fail
            refine (specIsToken_any _ _ hks).mono ?_
            rintro e w1 ⟨rfl, rfl⟩
            rw [HT.out]
            go_wp2
            go_ret
            exact ⟨ret_bool (allB_no hlt (by rw [HI.out, HT.out]; rfl)).symm, rfl⟩
          · have HT := Lib.hid ht
            clear ht
            go_wp2_with fail
            refine (specIn_any _ ins body[k] lo' hi' _ HX.out).mono ?_
            rintro e w1 ⟨rfl, rfl⟩
            rw [HI.out]
            go_wp2_with fail
            refine (specIsToken_any _ _ hks).mono ?_
            rintro e w1 ⟨rfl, rfl⟩
            rw [HT.out]
            go_wp2
            go_round
            case rel => exact ⟨k + 1, by omega, by go_num, fun j hj hjk => by
              by_cases e : j = k
              · subst e; rw [HT.out]; simp
              · exact HA.out j hj (by omega)⟩
            case measure => simp [intOf]; omega
      · have HI := Lib.hid hi
        clear hi
        go_wp2_with fail
        refine (specIn_any _ ins body[k] lo' hi' _ HX.out).mono ?_
        rintro e w1 ⟨rfl, rfl⟩
        rw [HI.out]
        go_wp2
        go_round
        case rel => exact ⟨k + 1, by omega, by go_num, fun j hj hjk => by
          by_cases e : j = k
          · subst e; rw [HI.out]; simp
          · exact HA.out j hj (by omega)⟩
        case measure => simp [intOf]; omega
    · go_wp2
      go_ret
      exact ⟨ret_bool (allB_yes fun k hk => HA.out k hk (by omega)).symm, rfl⟩
end Go.Proofs.Ytcgmnpfeiiomgaa

/- The walk of the model's l03Sort. -/
namespace Go.Proofs.Ytcgmnpfeiiomgaa
open Go.RowKit

def filtB (hs ins : List ByteArray) (k : Nat) : List ByteArray := (hs.take k).filter fun s => inB ins s
theorem filtB_t {hs ins : List ByteArray} {k : Nat} (h : k < hs.length) (hb : inB ins hs[k] = true) : filtB hs ins (k + 1) = filtB hs ins k ++ [hs[k]] := by
  unfold filtB; rw [List.take_succ_eq_append_getElem h, List.filter_append]; simp [hb]
theorem filtB_f {hs ins : List ByteArray} {k : Nat} (h : k < hs.length) (hb : inB ins hs[k] = false) : filtB hs ins (k + 1) = filtB hs ins k := by
  unfold filtB; rw [List.take_succ_eq_append_getElem h, List.filter_append]; simp [hb]
theorem filtB_mem {hs ins : List ByteArray} {k : Nat} {s : ByteArray} (h : s ∈ filtB hs ins k) : s ∈ hs := List.mem_of_mem_take (List.mem_filter.1 h).1
theorem filtB_len (hs ins : List ByteArray) (k : Nat) : (filtB hs ins k).length ≤ k := by
  unfold filtB
  refine Nat.le_trans (List.length_filter_le _ _) ?_
  rw [List.length_take]; omega

set_option maxRecDepth 100000 in
set_option maxHeartbeats 2000000 in
theorem specSort_any (rs : List RuleD) (v x : Value) (ins : List ByteArray) (lo hi lo' hi' : Nat) (w : World) (h : Rules w lo hi v rs) (hh : hi ≤ w.heap.size) (hl20 : rs.length ≤ 1000) (hx : Strs w lo' hi' x ins) (hh' : hi' ≤ w.heap.size) :
    Calls Try.prog 109 #[.agg #[v], x] w (MadeS w ((hsOf rs).filter fun s => inB ins s)) := by
  obtain ⟨i0, hi0, hz0, hz1, hz2⟩ := info_parts Try.infoStr
  have HV := Lib.hid h
  have HX := Lib.hid hx
  obtain ⟨A, c, rfl, -⟩ := h
  obtain ⟨X, xc, rfl, -⟩ := hx
  have hb := al2 w (.cells #[.slice A rs.length c] 25) (.cells #[] 9)
  have R0 := (Row.made w 25 #[.slice A rs.length c]).alloc (.cells #[] 9)
  have c0 := R0.cell 0
  simp at c0
  have hln := headsTo_len rs rs.length
  clear R0
  go_enter Try.func109, Try.ntmps109
  go_wp2_with fail
  refine (specHeadsOf_any rs _ lo hi _ (HV.out.below hb hh) (by simp; omega) (by omega)).mono ?_
  rintro e w1 ⟨u, g, rfl, ho, hg, b1⟩
  change OwnS w1 g u (hsOf rs) at ho
  change (hsOf rs).length ≤ rs.length at hln
  have hg1 : hsOf rs ≠ [] → w.heap.size + 2 ≤ g ∧ g < w1.heap.size := fun hn => by have := hg hn; simpa using this
  have ST := ho.strs hg1
  have hs1 := b1.size
  have N0 : Sts w1 (w.heap.size + 1) (.slice (some ⟨w.heap.size + 1, 0, none⟩) 0 0) [] := by
    have h0 : Sts _ _ (.slice (some ⟨(w.alloc (.cells #[.slice A rs.length c] 25)).heap.size, 0, none⟩) 0 0) [] := Sts.nil (w.alloc (.cells #[.slice A rs.length c] 25)) (base := w.heap.size + 1) (by simp)
    have e : (w.alloc (.cells #[.slice A rs.length c] 25)).heap.size = w.heap.size + 1 := by simp
    rw [e] at h0
    exact h0.below b1
  have hb1 := hb.trans (b1.mono (by simp; omega))
  have hsz : w.heap.size + 2 ≤ w1.heap.size := by simpa using hs1
  have HST := Lib.hid ST
  have HXS := Lib.hid ((HX.out.below hb1 hh'))
  obtain ⟨Ah, ch, rfl, hlc, hc, hss, hcell⟩ := ST
  unfold maxLen at hc
  have HC := Lib.hid hcell
  have HZ : Hid (∀ k, ∀ s ∈ filtB (hsOf rs) ins k, s.size ≤ maxLen) := Lib.hid fun k s hs => hss s (filtB_mem hs)
  have HB1 := Lib.hid hb1
  clear hcell hss b1 hb ho hg hg1 hb1
  go_wp2
  go_loopw [5, 7] (fun y i wr => ∃ k : Nat, k ≤ (hsOf rs).length ∧ i = .int .i64 k ∧ Sts wr (w.heap.size + 1) y (filtB (hsOf rs) ins k) ∧ (∀ b, y.ownBlock = some b → b = w.heap.size + 1 ∨ w1.heap.size ≤ b) ∧ Keeps (w.heap.size + 2) w1.heap.size w1 wr ∧ Below w.heap.size w wr ∧ w1.heap.size ≤ wr.heap.size) (fun _ i _ => (hsOf rs).length - (intOf i).toNat)
  case atStart => exact ⟨0, by omega, rfl, N0, fun b hb => by simp [Value.ownBlock] at hb; omega, Keeps.refl _ _ _, HB1.out, Nat.le_refl _⟩
  case round =>
    obtain ⟨k, hk, rfl, hsts, how, hkp, hbw, hsw⟩ := hrel
    have hfl := filtB_len (hsOf rs) ins k
    by_cases hlt : k < (hsOf rs).length
    · obtain ⟨b, off, rfl, hbl, hbh, hcc⟩ := HC.out (by omega)
      have hck := (hkp.cell (p := ⟨b, off + k, none⟩) hbl hbh).trans (hcc k hlt)
      have HXr := Lib.hid (HX.out.below hbw hh')
      clear hcc
      cases hin : inB ins (hsOf rs)[k]
      · have HI := Lib.hid hin
        have HF := Lib.hid (filtB_f hlt hin)
        clear hin
        go_wp2_with fail
        refine (specIn_any _ ins (hsOf rs)[k] lo' hi' _ HXr.out).mono ?_
        rintro e w2 ⟨rfl, rfl⟩
        rw [HI.out]
        go_wp2
        go_roundw
        case rel => exact ⟨k + 1, by omega, by go_num, by rw [HF.out]; exact hsts, how, hkp, hbw, hsw⟩
        case measure => simp [intOf]; omega
      · have HI := Lib.hid hin
        have HF := Lib.hid (filtB_t hlt hin)
        clear hin
        have HS := Lib.hid hsts
        have HOW := Lib.hid how
        have HKP := Lib.hid hkp
        obtain ⟨By, dy, rfl⟩ := hsts.shape
        clear hsts how hkp
        go_wp2_with fail
        refine (specIn_any _ ins (hsOf rs)[k] lo' hi' _ HXr.out).mono ?_
        rintro e w2 ⟨rfl, rfl⟩
        rw [HI.out]
        go_wp2_with (at_builtin; refine wpList_append_lies _ rfl _ _ 34 rfl (w.heap.size + 1) 9 i0 (.string ByteArray.empty) 1 16 Try.underlying34 hi0 hz0 hz1 hz2 rfl (by decide) _ _ _ rfl (World.ownsRow.alloc HS.out _) ⟨wr.heap.size, 0, none⟩ 1 1 [.string (hsOf rs)[k]] rfl rfl (cell_one_new _ _ _) (one_str _) (by omega) (by unfold maxLen; omega) (by omega) (by simp; omega) (wr.heap.size + 1) (by simp) ?_)
        intro gg cap w3 hown3 hg3 hat3 hlt3
        have s3 : Sts w3 (w.heap.size + 1) (.slice (some ⟨gg, 0, none⟩) ((filtB (hsOf rs) ins k).length + 1) cap) (filtB (hsOf rs) ins (k + 1)) := by
          rw [HF.out]
          exact Sts.one _ hown3
        have B3 : Below w.heap.size w w3 := Tx.below_grown (hbw.trans ((al1 wr _).mono hbw.size)) (World.ownsRow.alloc HS.out _) hg3 (by simp; omega) (by omega)
        have z3 : w1.heap.size ≤ w3.heap.size := by have := hg3.size; simp at this; omega
        have o3 : ∀ b, (Value.slice (some ⟨gg, 0, none⟩) ((filtB (hsOf rs) ins k).length + 1) cap).ownBlock = some b → b = w.heap.size + 1 ∨ w1.heap.size ≤ b := fun b hb => by
          have : gg = b := by simpa [Value.ownBlock] using hb
          subst this
          rcases hat3 with hat | hat
          · exact HOW.out _ hat
          · omega
        have K3 : Keeps (w.heap.size + 2) w1.heap.size w1 w3 := HKP.out.trans fun j hj1 hj2 => (hg3.block j (by simp; omega) fun e => by
          have := HOW.out j e.symm
          omega).trans (Below.heap_alloc _ _ _ (by omega))
        clear hown3 hg3 hat3 hlt3
        go_wp2
        go_roundw
        case rel => exact ⟨k + 1, by omega, by go_num, s3, o3, K3, B3, z3⟩
        case measure => simp [intOf]; omega
    · have hks : k = (hsOf rs).length := by omega
      subst hks
      obtain ⟨g, ho, hg⟩ := hsts.own (HZ.out _)
      have HE : Hid (filtB (hsOf rs) ins (hsOf rs).length = (hsOf rs).filter fun s => inB ins s) := Lib.hid (by unfold filtB; rw [List.take_length])
      rw [HE.out] at ho hg
      clear hsts
      go_wp2
      go_ret
      exact ⟨_, g, rfl, ho, fun hn => by have := hg hn; omega, hbw⟩
end Go.Proofs.Ytcgmnpfeiiomgaa
