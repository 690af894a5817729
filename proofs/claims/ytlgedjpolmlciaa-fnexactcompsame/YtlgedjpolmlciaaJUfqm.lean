import Derived.Test.YtlgedjpolmlciaaJSmz
import Derived.BigQuiet
import Derived.Test.YtlgedjpolmlciaaJUfpm
/- Is a term right? The model: spec.l06Part, spec.TermRight. -/
namespace Go.Proofs.Ytlgedjpolmlciaa
open Go.RowKit

theorem ret_boolM {a b : Bool} (h : a = b) : Ending.returned (.bool a) = .returned (.bool b) := by rw [h]
theorem partM_field {d : Nat} {t : TermD} (h : fieldB t = false) : partM d t = false := by
  cases d with
  | zero => rfl
  | succ d => rw [partM_succ, h]; rfl
theorem partM_kids {d : Nat} {t : TermD} (h : fieldB t = true) : partM (d + 1) t = t.kids.all (partM d) := by rw [partM_succ, h]; rfl
theorem partM_leaf {d : Nat} {t : TermD} (h : t.kids.length = 0) : partM (d + 1) t = fieldB t := by
  rw [partM_succ, List.length_eq_zero_iff.1 h]; simp

end Go.Proofs.Ytlgedjpolmlciaa

/- Are two lists of terms alike in what is their own? slices.EqualFunc, the function literals of impl.TermSame. -/
namespace Go.Proofs.Ytlgedjpolmlciaa
open Go.RowKit

set_option maxRecDepth 100000 in
set_option maxHeartbeats 1000000 in
theorem sameOwn_anyM (a b : TermD) (A B : Option Addr) (c d : Nat) (w : World) :
    Calls Try.prog 35 #[.agg #[.int .i64 a.kind, .int .i64 a.num, .slice A a.kids.length c], .agg #[.int .i64 b.kind, .int .i64 b.num, .slice B b.kids.length d]] w fun e w' => e = .returned (.bool (decide (ownTM a = ownTM b))) ∧ Below w.heap.size w w' := by
  by_cases h1 : a.kind = b.kind
  · have e1 : (a.kind == b.kind) = true := by rw [beq_iff_eq]; exact h1
    by_cases h2 : a.num = b.num
    · have e2 := (show (a.num == b.num) = true by rw [beq_iff_eq]; exact h2)
      have HE := Lib.hid (decide_eq_true (show ownTM a = ownTM b by unfold ownTM; rw [h1, h2]))
      clear h2 h1
      go_enter Try.func35, Try.ntmps35
      go_wp2
      go_ret
      exact ⟨ret_boolM HE.out.symm, al2 _ _ _⟩
    · have e2 := (show (a.num == b.num) = false by rw [beq_eq_false_iff_ne]; exact h2)
      have HE := Lib.hid (decide_eq_false (fun h : ownTM a = ownTM b => h2 (congrArg Prod.snd h)))
      clear h1
      go_enter Try.func35, Try.ntmps35
      go_wp2
      go_ret
      exact ⟨ret_boolM HE.out.symm, al2 _ _ _⟩
  · have e1 : (a.kind == b.kind) = false := by rw [beq_eq_false_iff_ne]; exact h1
    have HE := Lib.hid (decide_eq_false (fun h : ownTM a = ownTM b => h1 (congrArg Prod.fst h)))
    go_enter Try.func35, Try.ntmps35
    go_wp2
    go_ret
    exact ⟨ret_boolM HE.out.symm, al2 _ _ _⟩
set_option maxRecDepth 100000 in
set_option maxHeartbeats 1000000 in
theorem kidsOfU_anyM (t : TermD) (A : Option Addr) (c : Nat) (w : World) :
    Calls Try.prog 34 #[.agg #[.int .i64 t.kind, .int .i64 t.num, .slice A t.kids.length c]] w fun e w' => e = .returned (.slice A t.kids.length c) ∧ Below w.heap.size w w' := by
  have b1 := al1 w (.cells #[.int .i64 t.kind, .int .i64 t.num, .slice A t.kids.length c] 39)
  have R := Row.made w 39 #[.int .i64 t.kind, .int .i64 t.num, .slice A t.kids.length c]
  have c2 := R.cell 2
  simp at c2
  go_enter Try.func34, Try.ntmps34
  go_wp2
  go_ret
  exact ⟨rfl, b1⟩
set_option maxRecDepth 100000 in
set_option maxHeartbeats 4000000 in
theorem equalOwn_anyM (x y : List TermD) (z : Bool) (v u : Value) (lo hi : Nat) (w : World) (hv : KM z w lo hi v x) (hu : KM z w lo hi u y) (hh : hi ≤ w.heap.size) :
    Calls Try.prog 44 #[v, u, .func (.func 35) #[] #[]] w fun e w' => ∃ a, e = .returned (.bool a) ∧ (a = true ↔ OwnsEqM x y) ∧ Below w.heap.size w w' := by
  obtain ⟨A, c, U, rfl, hlc, hc, _, hcell, hsub⟩ := hv.parts
  obtain ⟨B, d, V, rfl, hld, hd, _, hcell', hsub'⟩ := hu.parts
  have HC := Lib.hid hcell
  have HC' := Lib.hid hcell'
  have HB := Lib.hid hsub
  have HB' := Lib.hid hsub'
  unfold maxLen at hc hd
  clear hcell hcell' hsub hsub' hv hu
  by_cases hn : x.length = y.length
  · have n0 : ((x.length : Int) != (y.length : Int)) = false := by rw [bne_eq_false_iff_eq]; omega
    have HN := Lib.hid hn
    clear hn
    go_enter Try.func44, Try.ntmps44
    go_wp2
    go_loopg [17] x.length (fun gk i wr => ∃ k : Nat, k ≤ x.length ∧ i = .int .i64 k ∧ Below w.heap.size w wr ∧ (∀ j (h : j < x.length) (h' : j < y.length), j < k → ownTM x[j] = ownTM y[j]) ∧ gk = x.length - k)
    case atStart => exact ⟨0, by omega, rfl, Below.refl _ _, (fun j _ _ hj => by omega), rfl⟩
    case round =>
      obtain ⟨k, hk, rfl, hbw, hall, rfl⟩ := hrel
      have HA := Lib.hid hall
      clear hall
      have hsw := hbw.size
      by_cases hlt : k < x.length
      · have hlt' : k < y.length := by have := HN.out; omega
        obtain ⟨b, off, rfl, _, hbh, _, hcc⟩ := HC.out (by omega)
        obtain ⟨hc0, hc1, hc2⟩ := hcc k hlt
        obtain ⟨b', off', rfl, _, hbh', _, hcc'⟩ := HC'.out (by omega)
        obtain ⟨hd0, hd1, hd2⟩ := hcc' k hlt'
        obtain ⟨A2, c2, U2, e2, -⟩ := (HB.out k hlt).parts
        obtain ⟨B2, d2, V2, f2, -⟩ := (HB'.out k hlt').parts
        rw [e2] at hc2
        rw [f2] at hd2
        have k0 := (hbw.cell (p := ⟨b, off + k * 3, none⟩) (by show b < _; omega)).trans hc0
        have k1 := (hbw.cell (p := ⟨b, off + k * 3 + 1, none⟩) (by show b < _; omega)).trans hc1
        have k2 := (hbw.cell (p := ⟨b, off + k * 3 + 2, none⟩) (by show b < _; omega)).trans hc2
        have m0 := (hbw.cell (p := ⟨b', off' + k * 3, none⟩) (by show b' < _; omega)).trans hd0
        have m1 := (hbw.cell (p := ⟨b', off' + k * 3 + 1, none⟩) (by show b' < _; omega)).trans hd1
        have m2 := (hbw.cell (p := ⟨b', off' + k * 3 + 2, none⟩) (by show b' < _; omega)).trans hd2
        have i1 : (k : Int) < (x.length : Int) := by omega
        have i2 : (k : Int) < (y.length : Int) := by omega
        have hb1 : b < wr.heap.size := by omega
        have hb2 : b' < wr.heap.size := by omega
        clear hcc hcc' hc0 hc1 hc2 hd0 hd1 hd2 e2 f2
        by_cases ht : ownTM x[k] = ownTM y[k]
        · have HT := Lib.hid ht
          have HD := Lib.hid (decide_eq_true ht)
          clear ht
          go_wp2_with fail
          refine (sameOwn_anyM x[k] y[k] _ _ _ _ _).mono ?_
          rintro e w1 ⟨rfl, b1⟩
          rw [HD.out]
          have hb3 : Below wr.heap.size wr w1 := (al2 _ _ _).trans (b1.mono (by simp; omega))
          go_wp2
          go_roundg (x.length - (k + 1))
          case rel => exact ⟨k + 1, by omega, by go_num, hbw.trans (hb3.mono hsw), (fun j hj hj' hjk => by
            by_cases e : j = k
            · subst e; exact HT.out
            · exact HA.out j hj hj' (by omega)), rfl⟩
          case measure => omega
        · have HE : Hid (¬ OwnsEqM x y) := Lib.hid (fun h => ht (h.2 k hlt hlt'))
          have HD := Lib.hid (decide_eq_false ht)
          clear ht
          go_wp2_with fail
          refine (sameOwn_anyM x[k] y[k] _ _ _ _ _).mono ?_
          rintro e w1 ⟨rfl, b1⟩
          rw [HD.out]
          have hb3 : Below wr.heap.size wr w1 := (al2 _ _ _).trans (b1.mono (by simp; omega))
          go_wp2
          go_ret
          exact ⟨false, rfl, ⟨(fun h => by cases h), fun h => absurd h HE.out⟩, hbw.trans (hb3.mono hsw)⟩
      · have HE : Hid (OwnsEqM x y) := Lib.hid ⟨HN.out, fun i hi hi' => HA.out i hi hi' (by omega)⟩
        go_wp2
        go_ret
        exact ⟨true, rfl, ⟨fun _ => HE.out, fun _ => rfl⟩, hbw⟩
  · have n0 : ((x.length : Int) != (y.length : Int)) = true := by rw [bne_iff_ne]; omega
    go_enter Try.func44, Try.ntmps44
    go_wp2
    go_ret
    exact ⟨false, rfl, ⟨(fun h => by cases h), fun h => absurd h.1 hn⟩, Below.refl _ _⟩
end Go.Proofs.Ytlgedjpolmlciaa
