/- The place that stands for another one, on: the walk of (takenAlike[Tree]).standFor. -/
import Derived.Test.YtlgedjpolmlciaaJUffm
import Derived.Deep.LoopGhost
namespace Go.Proofs.Ytlgedjpolmlciaa
open Go.RowKit

theorem Row.duoM {w : World} {g : Nat} {T : TypeId} {a b : Value} (h : Row w g T #[a, b]) : w.cell? ⟨g, 0, none⟩ = some a ∧ w.cell? ⟨g, 1, none⟩ = some b ∧ w.frozen? ⟨g, 0, none⟩ = false ∧ w.frozen? ⟨g, 1, none⟩ = false ∧ g < w.heap.size :=
  ⟨by simpa using h.cell 0, by simpa using h.cell 1, h.free 0, h.free 1, h.lt⟩
theorem putTwoM {w : World} {g : Nat} {T : TypeId} {x0 x1 a b : Value} (h : Row w g T #[x0, x1]) : Row ((w.setCell ⟨g, 0, none⟩ a).setCell ⟨g, 1, none⟩ b) g T #[a, b] := by
  simpa using (h.put 0 a).put 1 b
theorem two_otherM (w : World) (g : Nat) (a b : Value) {p : Nat} (h : p ≠ g) : ((w.setCell ⟨g, 0, none⟩ a).setCell ⟨g, 1, none⟩ b).heap[p]? = w.heap[p]? := by
  rw [Below.heap_setCell _ _ _ _ (by exact h), Below.heap_setCell _ _ _ _ (by exact h)]
theorem UfMM.twoM {w5 w : World} {m hi : Nat} {M : List (Place × Place)} (h : UfMM w5 m hi w M) {g : Nat} (hg : hi ≤ g) (hm : m ≠ g) (a b : Value) : UfMM w5 m hi ((w.setCell ⟨g, 0, none⟩ a).setCell ⟨g, 1, none⟩ b) M :=
  ⟨h.map.keep (two_otherM _ _ _ _ hm), h.key, ⟨h.near.os, h.near.tape, h.near.output, by simpa [World.setCell] using h.near.size, fun k h1 h2 => (two_otherM _ _ _ _ (by omega)).trans (h.near.block k h1 h2)⟩, h.here⟩
theorem Mid.twoM {w wr : World} {m g : Nat} (h : Mid m (m + 1) w wr) (hg : w.heap.size ≤ g) (a b : Value) : Mid m (m + 1) w ((wr.setCell ⟨g, 0, none⟩ a).setCell ⟨g, 1, none⟩ b) :=
  ⟨h.os, h.tape, h.output, by simpa [World.setCell] using h.size, fun k h1 h2 => (two_otherM _ _ _ _ (by omega)).trans (h.block k h1 h2)⟩

/-- what a round knows -/
structure StRM (w5 : World) (m hi : Nat) (D : List (List TermD × List TermD)) (M0 M : List (Place × Place)) (t : Place → Nat) (T : Nat) (x : List TermD) (w wr : World) (q : Place) (y : List TermD) : Prop where
  um : UfMM w5 m hi wr M
  st : StPM w5 hi D M0 M t T x q y
  mid : Mid m (m + 1) w wr
  box : Row wr w.heap.size 90 #[.pointer (some q.1), .int .i64 (q.2 : Int)]
  out : Row wr (w.heap.size + 1) 90 #[.pointer none, .int .i64 0]

theorem StRM.below {w5 w wr w' : World} {m hi : Nat} {D : List (List TermD × List TermD)} {M0 M : List (Place × Place)} {t : Place → Nat} {T : Nat} {x y : List TermD} {q : Place} (h : StRM w5 m hi D M0 M t T x w wr q y) (b : Below wr.heap.size wr w') (hh : hi ≤ w.heap.size) : StRM w5 m hi D M0 M t T x w w' q y :=
  ⟨h.um.keep b (Nat.le_trans hh h.mid.size), h.st, h.mid.trans (Mid.of_below b (Nat.le_refl _)), h.box.below b h.box.lt, h.out.below b h.out.lt⟩
theorem StRM.step {w5 w wr : World} {m hi : Nat} {D : List (List TermD × List TermD)} {M0 M : List (Place × Place)} {t : Place → Nat} {T : Nat} {x z : List TermD} {r : Place} {u v : Value} (um : UfMM w5 m hi wr M) (st : StPM w5 hi D M0 M t T x r z) (mid : Mid m (m + 1) w wr)
    (box : Row wr w.heap.size 90 #[u, v]) (out : Row wr (w.heap.size + 1) 90 #[.pointer none, .int .i64 0]) (hh : hi ≤ w.heap.size) (hm : m < w.heap.size) :
    StRM w5 m hi D M0 M t T x w ((wr.setCell ⟨w.heap.size, 0, none⟩ (.pointer (some r.1))).setCell ⟨w.heap.size, 1, none⟩ (.int .i64 (r.2 : Int))) r z :=
  ⟨um.twoM hh (by omega) _ _, st, mid.twoM (Nat.le_refl _) _ _, putTwoM box, out.same (two_otherM _ _ _ _ (by omega))⟩

set_option maxRecDepth 100000 in
set_option maxHeartbeats 8000000 in
theorem standFor_anyM (D : List (List TermD × List TermD)) (p : Place) (x : List TermD) (M : List (Place × Place)) (t : Place → Nat) (T m hi : Nat) (w5 w : World) (hM : UfMM w5 m hi w M) (hU : UfT (AtTM w5 hi) D M t T) (hp : AtTM w5 hi p x) (hh : hi ≤ w.heap.size) :
    Calls Try.prog 49 #[.map (some m), plV p] w fun e w' => ∃ r M' z, e = .returned (plV r) ∧ UfMM w5 m hi w' M' ∧ StPM w5 hi D M M' t T x r z ∧ lk M' r = none ∧ Mid m (m + 1) w w' := by
  have hml := hM.map.lt
  have b2 := al2 w (.cells #[.pointer (some p.1), .int .i64 (p.2 : Int)] 90) (.cells #[.pointer none, .int .i64 0] 90)
  have HI0 : Hid (StRM w5 m hi D M M t T x w ((w.alloc (.cells #[.pointer (some p.1), .int .i64 (p.2 : Int)] 90)).alloc (.cells #[.pointer none, .int .i64 0] 90)) p x) := Lib.hid
    ⟨hM.keep b2 hh, ⟨hU, fun _ => Iff.rfl, hp, .refl _⟩, Mid.of_below b2 (Nat.le_refl _), (Row.made w _ _).alloc _, by simpa using Row.made (w.alloc (.cells #[.pointer (some p.1), .int .i64 (p.2 : Int)] 90)) 90 #[.pointer none, .int .i64 0]⟩
  clear hM b2
  unfold plV
  go_enter Try.func49, Try.ntmps49
  go_wp2
  generalize (w.alloc (.cells #[.pointer (some p.1), .int .i64 (p.2 : Int)] 90)).alloc (.cells #[.pointer none, .int .i64 0] 90) = wz at HI0 ⊢
  go_loopg [5, 6, 7, 8] (stepsPM M t T p) (fun gk _ _ _ _ wr => ∃ q M1 y, StRM w5 m hi D M M1 t T x w wr q y ∧ gk = stepsPM M1 t T q)
  case atStart => exact ⟨p, M, x, HI0.out, rfl⟩
  case round =>
    clear HI0
    obtain ⟨q, M1, y, hR, rfl⟩ := hrel
    have hsz := hR.mid.size
    obtain ⟨a0, a1, a2, a3, a4⟩ := hR.box.duoM
    obtain ⟨o0, o1, o2, o3, o4⟩ := hR.out.duoM
    have HR := Lib.hid hR
    cases hq : lk M1 q with
    | none =>
      have l1 := hR.um.look hR.st.at_
      rw [hq] at l1
      simp only [Option.elim_none, Option.isSome_none] at l1
      unfold plV at l1
      have HQ := Lib.hid hq
      clear hR hq
      have R4 := (putTwoM (a := .pointer (some q.1)) (b := .int .i64 (q.2 : Int)) HR.out.out).alloc (.cells #[.pointer none, .int .i64 0] 90)
      have hb := al1 ((wr.setCell ⟨w.heap.size + 1, 0, none⟩ (.pointer (some q.1))).setCell ⟨w.heap.size + 1, 1, none⟩ (.int .i64 (q.2 : Int))) (.cells #[.pointer none, .int .i64 0] 90)
      have FIN : Hid (UfMM w5 m hi (((wr.setCell ⟨w.heap.size + 1, 0, none⟩ (.pointer (some q.1))).setCell ⟨w.heap.size + 1, 1, none⟩ (.int .i64 (q.2 : Int))).alloc (.cells #[.pointer none, .int .i64 0] 90)) M1 ∧ Mid m (m + 1) w (((wr.setCell ⟨w.heap.size + 1, 0, none⟩ (.pointer (some q.1))).setCell ⟨w.heap.size + 1, 1, none⟩ (.int .i64 (q.2 : Int))).alloc (.cells #[.pointer none, .int .i64 0] 90))) := Lib.hid
        ⟨(HR.out.um.twoM (by omega) (by omega) _ _).keep hb (by simp [World.setCell]; omega), (HR.out.mid.twoM (by omega) _ _).trans (Mid.of_below hb (Nat.le_refl _))⟩
      have e0 := R4.cell 0
      have e1 := R4.cell 1
      simp at e0 e1
      have HE := Lib.hid (And.intro e0 e1)
      clear e0 e1 R4 hb
      go_wp2
      obtain ⟨e0, e1⟩ := HE.out
      refine bodyPost_ret (v := .agg #[.pointer (some q.1), .int .i64 (q.2 : Int)]) (by simp [results, Try.results49, go_sem, e0, e1]) rfl ⟨q, M1, y, rfl, FIN.out.1, HR.out.st, HQ.out, FIN.out.2⟩
    | some r =>
      have l1 := hR.um.look hR.st.at_
      rw [hq] at l1
      simp only [Option.elim_some, Option.isSome_some] at l1
      unfold plV at l1
      obtain ⟨z, hz, hlt⟩ := hR.st.next hq
      have HZ := Lib.hid hz
      have HLT := Lib.hid hlt
      have HQ := Lib.hid hq
      have ba := al1 wr (.cells #[.pointer (some r.1), .int .i64 (r.2 : Int)] 90)
      have RA := Row.made wr 90 #[.pointer (some r.1), .int .i64 (r.2 : Int)]
      have ua := hR.um.keep ba (by omega)
      cases hr : lk M1 r with
      | none =>
        have l2 := ua.look hz.at_
        rw [hr] at l2
        simp only [Option.elim_none, Option.isSome_none] at l2
        unfold plV at l2
        have FIN : Hid (StRM w5 m hi D M M1 t T x w ((((wr.setCell ⟨w.heap.size, 0, none⟩ (.pointer (some r.1))).setCell ⟨w.heap.size, 1, none⟩ (.int .i64 (r.2 : Int))).alloc (.cells #[.pointer (some r.1), .int .i64 (r.2 : Int)] 90)).alloc (.cells #[.pointer none, .int .i64 0] 90)) r z) := Lib.hid
          ((StRM.step HR.out.um hz HR.out.mid HR.out.box HR.out.out hh hml).below (al2 _ _ _) hh)
        obtain ⟨d0, d1, _, _, d4⟩ := RA.duoM
        clear hR hq hr hz hlt ba RA ua
        go_wp2
        go_roundg (stepsPM M1 t T r)
        case rel => exact ⟨r, M1, z, FIN.out, rfl⟩
        case measure => exact HLT.out
      | some s =>
        have l2 := ua.look hz.at_
        rw [hr] at l2
        simp only [Option.elim_some, Option.isSome_some] at l2
        unfold plV at l2
        have bb := al1 (wr.alloc (.cells #[.pointer (some r.1), .int .i64 (r.2 : Int)] 90)) (.cells #[.pointer (some s.1), .int .i64 (s.2 : Int)] 90)
        have hzs : (wr.alloc (.cells #[.pointer (some r.1), .int .i64 (r.2 : Int)] 90)).heap.size = wr.heap.size + 1 := by simp
        have RB := Row.made (wr.alloc (.cells #[.pointer (some r.1), .int .i64 (r.2 : Int)] 90)) 90 #[.pointer (some s.1), .int .i64 (s.2 : Int)]
        rw [hzs] at RB
        obtain ⟨wC, hup, um3, mid3, z3⟩ := (ua.keep bb (by omega)).put (q := s) HR.out.st.at_ (by simp; omega)
        unfold plV at hup
        obtain ⟨z', hz', hlt'⟩ := HR.out.st.short HQ.out hr
        have hmw : m < wr.heap.size := by omega
        have R5 := (RA.alloc (.cells #[.pointer (some s.1), .int .i64 (s.2 : Int)] 90)).same (mid3.block _ (by simp; omega) (.inr (by omega)))
        have RX := ((HR.out.box.alloc (.cells #[.pointer (some r.1), .int .i64 (r.2 : Int)] 90)).alloc (.cells #[.pointer (some s.1), .int .i64 (s.2 : Int)] 90)).same (mid3.block _ (by simp; omega) (.inr (by omega)))
        have RY := ((HR.out.out.alloc (.cells #[.pointer (some r.1), .int .i64 (r.2 : Int)] 90)).alloc (.cells #[.pointer (some s.1), .int .i64 (s.2 : Int)] 90)).same (mid3.block _ (by simp; omega) (.inr (by omega)))
        have FIN : Hid (StRM w5 m hi D M (up M1 q s) t T x w ((wC.setCell ⟨w.heap.size, 0, none⟩ (.pointer (some r.1))).setCell ⟨w.heap.size, 1, none⟩ (.int .i64 (r.2 : Int))) r z') := Lib.hid
          (StRM.step um3 hz' (((HR.out.mid.trans (Mid.of_below ba (Nat.le_refl _))).trans (Mid.of_below bb (Nat.le_refl _))).trans mid3) RX RY hh hml)
        have HLT' := Lib.hid hlt'
        obtain ⟨d0, d1, _, _, d4⟩ := RA.duoM
        obtain ⟨f0, f1, _, _, f4⟩ := RB.duoM
        obtain ⟨g0, g1, _, _, g4⟩ := R5.duoM
        obtain ⟨x0, x1, x2, x3, x4⟩ := RX.duoM
        clear hR hq hr hz hlt ba RA ua bb hzs RB um3 mid3 z3 hz' hlt' R5 RX RY
        go_wp2
        go_roundg (stepsPM (up M1 q s) t T r)
        case rel => exact ⟨r, up M1 q s, z', FIN.out, rfl⟩
        case measure => exact HLT'.out
end Go.Proofs.Ytlgedjpolmlciaa
