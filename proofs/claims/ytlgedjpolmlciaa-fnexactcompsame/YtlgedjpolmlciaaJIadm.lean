import Derived.Test.YtlgedjpolmlciaaUfgm
import Derived.Deep.RegionWith
import Derived.RegionTactic
import Derived.Test.YtlgedjpolmlciaaJTmz
import Derived.Test.YtlgedjpolmlciaaJOwns
import Derived.Test.YtlgedjpolmlciaaJUffm
/- Two places are taken for alike: (takenAlike[Tree]).take. -/
namespace Go.Proofs.Ytlgedjpolmlciaa
open Go.RowKit

/-- what take knows of two places when both ways were gone -/
structure TkIM (w5 : World) (m hi : Nat) (D : List (List TermD × List TermD)) (M : List (Place × Place)) (t : Place → Nat) (T : Nat) (x y : List TermD) (w0 w : World) (r1 r2 : Place) (M2 : List (Place × Place)) : Prop where
  um : UfMM w5 m hi w M2
  uf : UfT (AtTM w5 hi) D M2 t T
  n1 : lk M2 r1 = none
  n2 : lk M2 r2 = none
  z1 : ∃ z, AtTM w5 hi r1 z ∧ Eqv D x z
  z2 : ∃ z, AtTM w5 hi r2 z ∧ Eqv D y z
  mid : Mid m (m + 1) w0 w
theorem TkIM.alike {w5 w0 w : World} {m hi : Nat} {D : List (List TermD × List TermD)} {M M2 : List (Place × Place)} {t : Place → Nat} {T : Nat} {x y : List TermD} {r1 r2 : Place} (h : TkIM w5 m hi D M t T x y w0 w r1 r2 M2) (e : r1 = r2) : Eqv D x y := by
  obtain ⟨z, h1, h2⟩ := h.z1
  obtain ⟨z', h3, h4⟩ := h.z2
  subst e
  obtain rfl := AtTM.func _ _ _ h1 h3
  exact .trans _ _ _ h2 (.symm _ _ h4)
theorem TkIM.join {w5 w0 w : World} {m hi : Nat} {D : List (List TermD × List TermD)} {M M2 : List (Place × Place)} {t : Place → Nat} {T : Nat} {x y : List TermD} {r1 r2 : Place} (h : TkIM w5 m hi D M t T x y w0 w r1 r2 M2) (e : r1 ≠ r2) : ∃ t' T', UfT (AtTM w5 hi) ((x, y) :: D) (up M2 r1 r2) t' T' := by
  obtain ⟨z, h1, h2⟩ := h.z1
  obtain ⟨z', h3, h4⟩ := h.z2
  have hd : ∀ e ∈ D, e ∈ (x, y) :: D := fun e he => List.mem_cons_of_mem _ he
  exact (h.uf.mono hd).join h.n1 h.n2 e h1 h3 (.trans _ _ _ (.symm _ _ (h2.mono hd)) (.trans _ _ _ (.pair _ _ List.mem_cons_self) (h4.mono hd)))

set_option maxRecDepth 100000 in
set_option maxHeartbeats 8000000 in
theorem take_anyM (D : List (List TermD × List TermD)) (p q : Place) (x y : List TermD) (M : List (Place × Place)) (t : Place → Nat) (T m hi : Nat) (w5 w : World) (hM : UfMM w5 m hi w M) (hU : UfT (AtTM w5 hi) D M t T) (hp : AtTM w5 hi p x) (hq : AtTM w5 hi q y) (hh : hi ≤ w.heap.size) :
    Calls Try.prog 45 #[.map (some m), plV p, plV q] w fun e w' => ∃ b M' t' T', e = .returned (.bool b) ∧ UfMM w5 m hi w' M' ∧ (b = false → Eqv D x y ∧ UfT (AtTM w5 hi) D M' t' T') ∧ (b = true → UfT (AtTM w5 hi) ((x, y) :: D) M' t' T') ∧ Mid m (m + 1) w w' := by
  have hml := hM.map.lt
  have b2 := al2 w (.cells #[.pointer (some p.1), .int .i64 (p.2 : Int)] 90) (.cells #[.pointer (some q.1), .int .i64 (q.2 : Int)] 90)
  have HM := Lib.hid (hM.keep b2 hh)
  have HMD := Lib.hid (Mid.of_below (lo := m) (hi := m + 1) b2 (Nat.le_refl _))
  have R4 := (Row.made w 90 #[.pointer (some p.1), .int .i64 (p.2 : Int)]).alloc (.cells #[.pointer (some q.1), .int .i64 (q.2 : Int)] 90)
  have R5 : Row ((w.alloc (.cells #[.pointer (some p.1), .int .i64 (p.2 : Int)] 90)).alloc (.cells #[.pointer (some q.1), .int .i64 (q.2 : Int)] 90)) (w.heap.size + 1) 90 #[.pointer (some q.1), .int .i64 (q.2 : Int)] := by
    simpa using Row.made (w.alloc (.cells #[.pointer (some p.1), .int .i64 (p.2 : Int)] 90)) 90 #[.pointer (some q.1), .int .i64 (q.2 : Int)]
  have HR4 := Lib.hid R4
  have HR5 := Lib.hid R5
  have hz : ((w.alloc (.cells #[.pointer (some p.1), .int .i64 (p.2 : Int)] 90)).alloc (.cells #[.pointer (some q.1), .int .i64 (q.2 : Int)] 90)).heap.size = w.heap.size + 2 := by simp
  have HZ := Lib.hid hz
  have HU := Lib.hid hU
  clear hM b2 R4 R5 hz hU
  unfold plV
  go_enter Try.func45, Try.ntmps45
  go_wp2
  generalize (w.alloc (.cells #[.pointer (some p.1), .int .i64 (p.2 : Int)] 90)).alloc (.cells #[.pointer (some q.1), .int .i64 (q.2 : Int)] 90) = wx at HM HMD HR4 HR5 HZ ⊢
  have RD4 : Row wx.drew w.heap.size 90 #[.pointer (some p.1), .int .i64 (p.2 : Int)] := HR4.out
  have RD5 : Row wx.drew (w.heap.size + 1) 90 #[.pointer (some q.1), .int .i64 (q.2 : Int)] := HR5.out
  have HMX : Hid (UfMM w5 m hi wx.drew M ∧ wx.drew.heap.size = w.heap.size + 2) := Lib.hid ⟨HM.out.keep ((Below.refl wx.heap.size wx).drew) (by have := HZ.out; omega), HZ.out⟩
  obtain ⟨a0, a1, a2, a3, a4⟩ := RD4.duoM
  obtain ⟨c0, c1, c2, c3, c4⟩ := RD5.duoM
  go_region_with (first
    | (go_at_call 49; have step := standFor_anyM D p x M t T m hi w5 wx.drew HMX.out.1 HU.out hp (by have := HMX.out.2; omega); unfold plV at step; refine step.mono ?_; clear step HMX; rintro e wa ⟨r1, M1, zz1, rfl, um1, st1, n1, mid1⟩; have HMY := Lib.hid (And.intro um1 (And.intro st1 (And.intro n1 mid1))); have RA4 := RD4.same (mid1.block _ a4 (.inr (by omega))); have RA5 := RD5.same (mid1.block _ c4 (.inr (by omega))); obtain ⟨e0, e1, e2, e3, e4⟩ := RA4.duoM; obtain ⟨f0, f1, f2, f3, f4⟩ := RA5.duoM; clear um1 st1 n1 mid1)
    | (go_at_call 49; have step := standFor_anyM D q y M1 t T m hi w5 wa HMY.out.1 HMY.out.2.1.uf hq (by have := HMY.out.2.2.2.size; omega); unfold plV at step; refine step.mono ?_; clear step; rintro e wb ⟨r2, M2, zz2, rfl, um2, st2, n2, mid2⟩; have HMW := Lib.hid (And.intro um2 (And.intro st2 (And.intro n2 mid2))); have RB4 := RA4.same (mid2.block _ e4 (.inr (by omega))); have RB5 := RA5.same (mid2.block _ f4 (.inr (by omega))); obtain ⟨g0, g1, g2, g3, g4⟩ := RB4.duoM; obtain ⟨k0, k1, k2, k3, k4⟩ := RB5.duoM; clear um2 st2 n2 mid2))
  all_goals
    obtain ⟨um1, st1, n1, mid1⟩ := HMY.out
    obtain ⟨um2, st2, n2, mid2⟩ := HMW.out
    have hz1 := mid1.size
    have hz2 := mid2.size
    have hzx := HZ.out
    have hzd : wx.drew.heap.size = wx.heap.size := rfl
    have RC4 := (putTwoM (a := .pointer (some r1.1)) (b := .int .i64 (r1.2 : Int)) RB4).same (w' := ((((wb.setCell ⟨w.heap.size, 0, none⟩ (.pointer (some r1.1))).setCell ⟨w.heap.size, 1, none⟩ (.int .i64 (r1.2 : Int))).setCell ⟨w.heap.size + 1, 0, none⟩ (.pointer (some r2.1))).setCell ⟨w.heap.size + 1, 1, none⟩ (.int .i64 (r2.2 : Int)))) (two_otherM _ _ _ _ (by omega))
    have RC5 := putTwoM (a := .pointer (some r2.1)) (b := .int .i64 (r2.2 : Int)) (RB5.same (w' := (wb.setCell ⟨w.heap.size, 0, none⟩ (.pointer (some r1.1))).setCell ⟨w.heap.size, 1, none⟩ (.int .i64 (r1.2 : Int))) (two_otherM _ _ _ _ (by omega)))
    have HT : Hid (TkIM w5 m hi D M t T x y w ((((wb.setCell ⟨w.heap.size, 0, none⟩ (.pointer (some r1.1))).setCell ⟨w.heap.size, 1, none⟩ (.int .i64 (r1.2 : Int))).setCell ⟨w.heap.size + 1, 0, none⟩ (.pointer (some r2.1))).setCell ⟨w.heap.size + 1, 1, none⟩ (.int .i64 (r2.2 : Int))) r1 r2 M2) := Lib.hid
      ⟨(um2.twoM hh (by omega) _ _).twoM (by omega) (by omega) _ _, st2.uf, (st2.keys r1).2 n1, n2, ⟨zz1, st1.at_, st1.eqv⟩, ⟨zz2, st2.at_, st2.eqv⟩,
        ((((HMD.out.trans (Mid.of_below ((Below.refl wx.heap.size wx).drew) (Nat.le_refl _))).trans mid1).trans mid2).twoM (Nat.le_refl _) _ _).twoM (by omega) _ _⟩
    generalize ((((wb.setCell ⟨w.heap.size, 0, none⟩ (.pointer (some r1.1))).setCell ⟨w.heap.size, 1, none⟩ (.int .i64 (r1.2 : Int))).setCell ⟨w.heap.size + 1, 0, none⟩ (.pointer (some r2.1))).setCell ⟨w.heap.size + 1, 1, none⟩ (.int .i64 (r2.2 : Int))) = wq at RC4 RC5 HT ⊢
    clear um1 st1 n1 mid1 um2 st2 n2 mid2 hz1 hz2 hzx hzd RD4 RD5 RA4 RA5 RB4 RB5 a0 a1 a2 a3 a4 c0 c1 c2 c3 c4 e0 e1 e2 e3 e4 f0 f1 f2 f3 f4 g0 g1 g2 g3 g4 k0 k1 k2 k3 k4 HMY HMW HM HMD HR4 HR5 HZ
    have lp : (Op.equalIn 9999 88 (.pointer (some r1.1)) (.pointer (some r2.1))).run Try.prog wq = .ok (decide (r1.1 = r2.1)) wq := by
      obtain ⟨z, h1, _⟩ := HT.out.z1
      obtain ⟨z', h2, _⟩ := HT.out.z2
      exact eqPtrM 9998 wq _ _ (HT.out.um.ok h1) (HT.out.um.ok h2)
    obtain ⟨a0, a1, _, _, a4⟩ := RC4.duoM
    obtain ⟨c0, c1, _, _, c4⟩ := RC5.duoM
    clear RC4 RC5
    by_cases hrr : r1 = r2
    · have HE := Lib.hid (HT.out.alike hrr)
      subst hrr
      rw [decide_eq_true rfl] at lp
      go_wp2
      go_ret
      exact ⟨false, M2, t, T, rfl, HT.out.um, (fun _ => ⟨HE.out, HT.out.uf⟩), (fun h => by cases h), HT.out.mid⟩
    · have hi : ((r1.2 : Int) == (r2.2 : Int)) = decide (r1.2 = r2.2) := by
        rw [Bool.eq_iff_iff, beq_iff_eq, decide_eq_true_iff]; omega
      have hor : decide (r1.2 = r2.2) = false ∨ (decide (r1.2 = r2.2) = true ∧ decide (r1.1 = r2.1) = false) := by
        by_cases h2 : r1.2 = r2.2
        · exact .inr ⟨decide_eq_true h2, decide_eq_false fun h1 => hrr (Prod.ext h1 h2)⟩
        · exact .inl (decide_eq_false h2)
      obtain ⟨t', T', hj⟩ := HT.out.join hrr
      obtain ⟨zz, hz1, _⟩ := HT.out.z1
      obtain ⟨wC, hup, um3, mid3, z3⟩ := HT.out.um.put (q := r2) hz1 (by have := HT.out.mid.size; omega)
      unfold plV at hup
      have FIN := Lib.hid (And.intro um3 (And.intro hj (HT.out.mid.trans mid3)))
      clear hrr hj hz1 um3 mid3 z3
      rcases hor with hor | ⟨hor, hor2⟩
      · rw [hor] at hi
        cases hd : decide (r1.1 = r2.1)
        all_goals
          rw [hd] at lp
          clear hd
          go_wp2
          go_ret
          exact ⟨true, _, t', T', rfl, FIN.out.1, (fun h => by cases h), (fun _ => FIN.out.2.1), FIN.out.2.2⟩
      · rw [hor] at hi
        rw [hor2] at lp
        go_wp2
        go_ret
        exact ⟨true, _, t', T', rfl, FIN.out.1, (fun h => by cases h), (fun _ => FIN.out.2.1), FIN.out.2.2⟩
end Go.Proofs.Ytlgedjpolmlciaa

/- The sum and the product of two sizes: impl.plus, impl.times. -/
namespace Go.Proofs.Ytlgedjpolmlciaa
open Go.RowKit

def endl : Int := 9223372036854775807
theorem stk3_one (A : Option Addr) (n c : Nat) (a b : Int) : ∀ u ∈ [Value.slice A n c, .int .i64 a, .int .i64 b], u.oneCell' = true := by
  intro u hu
  simp only [List.mem_cons, List.not_mem_nil, or_false] at hu
  rcases hu with rfl | rfl | rfl <;> rfl
theorem below_dn {B : Nat} {a w : World} (h : Below B a w) (n : Nat) : Below B a (w.drewN n) := ⟨h.os, h.tape, h.output, h.size, h.block⟩
theorem zeroI64 (w : World) : (zeroValue 2).run Try.prog w = .ok (.int .i64 0) w := by kernel_rfl
end Go.Proofs.Ytlgedjpolmlciaa

/- One more of a list is counted: (*tally).add. -/
namespace Go.Proofs.Ytlgedjpolmlciaa
open Go.RowKit

end Go.Proofs.Ytlgedjpolmlciaa
