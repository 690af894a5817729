import Derived.Test.YtokdhgocgicdnaaGreatDoorJUff
import Derived.Deep.LoopGhost
import Derived.Deep.RegionWith
import Derived.RegionTactic
import Derived.Test.YtokdhgocgicdnaaGreatDoorJIsz
import Derived.Deep.AppendLies
import Derived.Test.YtokdhgocgicdnaaGreatDoorJStr
/- The place that stands for another one, on: the walk of (takenAlike[Tree]).standFor. -/
namespace Go.Proofs.YtokdhgocgicdnaaGreatDoor
open Go.RowKit

theorem Row.duo {w : World} {g : Nat} {T : TypeId} {a b : Value} (h : Row w g T #[a, b]) : w.cell? ⟨g, 0, none⟩ = some a ∧ w.cell? ⟨g, 1, none⟩ = some b ∧ w.frozen? ⟨g, 0, none⟩ = false ∧ w.frozen? ⟨g, 1, none⟩ = false ∧ g < w.heap.size :=
  ⟨by simpa using h.cell 0, by simpa using h.cell 1, h.free 0, h.free 1, h.lt⟩
theorem putTwo {w : World} {g : Nat} {T : TypeId} {x0 x1 a b : Value} (h : Row w g T #[x0, x1]) : Row ((w.setCell ⟨g, 0, none⟩ a).setCell ⟨g, 1, none⟩ b) g T #[a, b] := by
  simpa using (h.put 0 a).put 1 b
theorem two_other (w : World) (g : Nat) (a b : Value) {p : Nat} (h : p ≠ g) : ((w.setCell ⟨g, 0, none⟩ a).setCell ⟨g, 1, none⟩ b).heap[p]? = w.heap[p]? := by
  rw [Below.heap_setCell _ _ _ _ (by exact h), Below.heap_setCell _ _ _ _ (by exact h)]
theorem UfM.two {w5 w : World} {m hi : Nat} {M : List (Place × Place)} (h : UfM w5 m hi w M) {g : Nat} (hg : hi ≤ g) (hm : m ≠ g) (a b : Value) : UfM w5 m hi ((w.setCell ⟨g, 0, none⟩ a).setCell ⟨g, 1, none⟩ b) M :=
  ⟨h.map.keep (two_other _ _ _ _ hm), h.key, ⟨h.near.os, h.near.tape, h.near.output, by simpa [World.setCell] using h.near.size, fun k h1 h2 => (two_other _ _ _ _ (by omega)).trans (h.near.block k h1 h2)⟩, h.here⟩
theorem Mid.two {w wr : World} {m g : Nat} (h : Mid m (m + 1) w wr) (hg : w.heap.size ≤ g) (a b : Value) : Mid m (m + 1) w ((wr.setCell ⟨g, 0, none⟩ a).setCell ⟨g, 1, none⟩ b) :=
  ⟨h.os, h.tape, h.output, by simpa [World.setCell] using h.size, fun k h1 h2 => (two_other _ _ _ _ (by omega)).trans (h.block k h1 h2)⟩

/-- what a round knows -/
structure StR (w5 : World) (m hi : Nat) (D : List (List TreeD × List TreeD)) (M0 M : List (Place × Place)) (t : Place → Nat) (T : Nat) (x : List TreeD) (w wr : World) (q : Place) (y : List TreeD) : Prop where
  um : UfM w5 m hi wr M
  st : StP w5 hi D M0 M t T x q y
  mid : Mid m (m + 1) w wr
  box : Row wr w.heap.size 116 #[.pointer (some q.1), .int .i64 (q.2 : Int)]
  out : Row wr (w.heap.size + 1) 116 #[.pointer none, .int .i64 0]

theorem StR.below {w5 w wr w' : World} {m hi : Nat} {D : List (List TreeD × List TreeD)} {M0 M : List (Place × Place)} {t : Place → Nat} {T : Nat} {x y : List TreeD} {q : Place} (h : StR w5 m hi D M0 M t T x w wr q y) (b : Below wr.heap.size wr w') (hh : hi ≤ w.heap.size) : StR w5 m hi D M0 M t T x w w' q y :=
  ⟨h.um.keep b (Nat.le_trans hh h.mid.size), h.st, h.mid.trans (Mid.of_below b (Nat.le_refl _)), h.box.below b h.box.lt, h.out.below b h.out.lt⟩
theorem StR.step {w5 w wr : World} {m hi : Nat} {D : List (List TreeD × List TreeD)} {M0 M : List (Place × Place)} {t : Place → Nat} {T : Nat} {x z : List TreeD} {r : Place} {u v : Value} (um : UfM w5 m hi wr M) (st : StP w5 hi D M0 M t T x r z) (mid : Mid m (m + 1) w wr)
    (box : Row wr w.heap.size 116 #[u, v]) (out : Row wr (w.heap.size + 1) 116 #[.pointer none, .int .i64 0]) (hh : hi ≤ w.heap.size) (hm : m < w.heap.size) :
    StR w5 m hi D M0 M t T x w ((wr.setCell ⟨w.heap.size, 0, none⟩ (.pointer (some r.1))).setCell ⟨w.heap.size, 1, none⟩ (.int .i64 (r.2 : Int))) r z :=
  ⟨um.two hh (by omega) _ _, st, mid.two (Nat.le_refl _) _ _, putTwo box, out.same (two_other _ _ _ _ (by omega))⟩

set_option maxRecDepth 100000 in
set_option maxHeartbeats 8000000 in
theorem standFor_any (D : List (List TreeD × List TreeD)) (p : Place) (x : List TreeD) (M : List (Place × Place)) (t : Place → Nat) (T m hi : Nat) (w5 w : World) (hM : UfM w5 m hi w M) (hU : UfT (AtT w5 hi) D M t T) (hp : AtT w5 hi p x) (hh : hi ≤ w.heap.size) :
    Calls Tryz.prog 73 #[.map (some m), plV p] w fun e w' => ∃ r M' z, e = .returned (plV r) ∧ UfM w5 m hi w' M' ∧ StP w5 hi D M M' t T x r z ∧ lk M' r = none ∧ Mid m (m + 1) w w' := by
  have hml := hM.map.lt
  have b2 := al2 w (.cells #[.pointer (some p.1), .int .i64 (p.2 : Int)] 116) (.cells #[.pointer none, .int .i64 0] 116)
  have HI0 : Hid (StR w5 m hi D M M t T x w ((w.alloc (.cells #[.pointer (some p.1), .int .i64 (p.2 : Int)] 116)).alloc (.cells #[.pointer none, .int .i64 0] 116)) p x) := Lib.hid
    ⟨hM.keep b2 hh, ⟨hU, fun _ => Iff.rfl, hp, .refl _⟩, Mid.of_below b2 (Nat.le_refl _), (Row.made w _ _).alloc _, by simpa using Row.made (w.alloc (.cells #[.pointer (some p.1), .int .i64 (p.2 : Int)] 116)) 116 #[.pointer none, .int .i64 0]⟩
  clear hM b2
  unfold plV
  go_enter Tryz.func73, Tryz.ntmps73
  go_wp2
  generalize (w.alloc (.cells #[.pointer (some p.1), .int .i64 (p.2 : Int)] 116)).alloc (.cells #[.pointer none, .int .i64 0] 116) = wz at HI0 ⊢
  go_loopg [5, 6, 7, 8] (stepsP M t T p) (fun gk _ _ _ _ wr => ∃ q M1 y, StR w5 m hi D M M1 t T x w wr q y ∧ gk = stepsP M1 t T q)
  case atStart => exact ⟨p, M, x, HI0.out, rfl⟩
  case round =>
    clear HI0
    obtain ⟨q, M1, y, hR, rfl⟩ := hrel
    have hsz := hR.mid.size
    obtain ⟨a0, a1, a2, a3, a4⟩ := hR.box.duo
    obtain ⟨o0, o1, o2, o3, o4⟩ := hR.out.duo
    have HR := Lib.hid hR
    cases hq : lk M1 q with
    | none =>
      have l1 := hR.um.look hR.st.at_
      rw [hq] at l1
      simp only [Option.elim_none, Option.isSome_none] at l1
      unfold plV at l1
      have HQ := Lib.hid hq
      clear hR hq
      have R4 := (putTwo (a := .pointer (some q.1)) (b := .int .i64 (q.2 : Int)) HR.out.out).alloc (.cells #[.pointer none, .int .i64 0] 116)
      have hb := al1 ((wr.setCell ⟨w.heap.size + 1, 0, none⟩ (.pointer (some q.1))).setCell ⟨w.heap.size + 1, 1, none⟩ (.int .i64 (q.2 : Int))) (.cells #[.pointer none, .int .i64 0] 116)
      have FIN : Hid (UfM w5 m hi (((wr.setCell ⟨w.heap.size + 1, 0, none⟩ (.pointer (some q.1))).setCell ⟨w.heap.size + 1, 1, none⟩ (.int .i64 (q.2 : Int))).alloc (.cells #[.pointer none, .int .i64 0] 116)) M1 ∧ Mid m (m + 1) w (((wr.setCell ⟨w.heap.size + 1, 0, none⟩ (.pointer (some q.1))).setCell ⟨w.heap.size + 1, 1, none⟩ (.int .i64 (q.2 : Int))).alloc (.cells #[.pointer none, .int .i64 0] 116))) := Lib.hid
        ⟨(HR.out.um.two (by omega) (by omega) _ _).keep hb (by simp [World.setCell]; omega), (HR.out.mid.two (by omega) _ _).trans (Mid.of_below hb (Nat.le_refl _))⟩
      have e0 := R4.cell 0
      have e1 := R4.cell 1
      simp at e0 e1
      have HE := Lib.hid (And.intro e0 e1)
      clear e0 e1 R4 hb
      go_wp2
      obtain ⟨e0, e1⟩ := HE.out
      refine bodyPost_ret (v := .agg #[.pointer (some q.1), .int .i64 (q.2 : Int)]) (by simp [results, Tryz.results73, go_sem, e0, e1]) rfl ⟨q, M1, y, rfl, FIN.out.1, HR.out.st, HQ.out, FIN.out.2⟩
    | some r =>
      have l1 := hR.um.look hR.st.at_
      rw [hq] at l1
      simp only [Option.elim_some, Option.isSome_some] at l1
      unfold plV at l1
      obtain ⟨z, hz, hlt⟩ := hR.st.next hq
      have HZ := Lib.hid hz
      have HLT := Lib.hid hlt
      have HQ := Lib.hid hq
      have ba := al1 wr (.cells #[.pointer (some r.1), .int .i64 (r.2 : Int)] 116)
      have RA := Row.made wr 116 #[.pointer (some r.1), .int .i64 (r.2 : Int)]
      have ua := hR.um.keep ba (by omega)
      cases hr : lk M1 r with
      | none =>
        have l2 := ua.look hz.at_
        rw [hr] at l2
        simp only [Option.elim_none, Option.isSome_none] at l2
        unfold plV at l2
        have FIN : Hid (StR w5 m hi D M M1 t T x w ((((wr.setCell ⟨w.heap.size, 0, none⟩ (.pointer (some r.1))).setCell ⟨w.heap.size, 1, none⟩ (.int .i64 (r.2 : Int))).alloc (.cells #[.pointer (some r.1), .int .i64 (r.2 : Int)] 116)).alloc (.cells #[.pointer none, .int .i64 0] 116)) r z) := Lib.hid
          ((StR.step HR.out.um hz HR.out.mid HR.out.box HR.out.out hh hml).below (al2 _ _ _) hh)
        obtain ⟨d0, d1, _, _, d4⟩ := RA.duo
        clear hR hq hr hz hlt ba RA ua
        go_wp2
        go_roundg (stepsP M1 t T r)
        case rel => exact ⟨r, M1, z, FIN.out, rfl⟩
        case measure => exact HLT.out
      | some s =>
        have l2 := ua.look hz.at_
        rw [hr] at l2
        simp only [Option.elim_some, Option.isSome_some] at l2
        unfold plV at l2
        have bb := al1 (wr.alloc (.cells #[.pointer (some r.1), .int .i64 (r.2 : Int)] 116)) (.cells #[.pointer (some s.1), .int .i64 (s.2 : Int)] 116)
        have hzs : (wr.alloc (.cells #[.pointer (some r.1), .int .i64 (r.2 : Int)] 116)).heap.size = wr.heap.size + 1 := by simp
        have RB := Row.made (wr.alloc (.cells #[.pointer (some r.1), .int .i64 (r.2 : Int)] 116)) 116 #[.pointer (some s.1), .int .i64 (s.2 : Int)]
        rw [hzs] at RB
        obtain ⟨wC, hup, um3, mid3, z3⟩ := (ua.keep bb (by omega)).put (q := s) HR.out.st.at_ (by simp; omega)
        unfold plV at hup
        obtain ⟨z', hz', hlt'⟩ := HR.out.st.short HQ.out hr
        have hmw : m < wr.heap.size := by omega
        have R5 := (RA.alloc (.cells #[.pointer (some s.1), .int .i64 (s.2 : Int)] 116)).same (mid3.block _ (by simp; omega) (.inr (by omega)))
        have RX := ((HR.out.box.alloc (.cells #[.pointer (some r.1), .int .i64 (r.2 : Int)] 116)).alloc (.cells #[.pointer (some s.1), .int .i64 (s.2 : Int)] 116)).same (mid3.block _ (by simp; omega) (.inr (by omega)))
        have RY := ((HR.out.out.alloc (.cells #[.pointer (some r.1), .int .i64 (r.2 : Int)] 116)).alloc (.cells #[.pointer (some s.1), .int .i64 (s.2 : Int)] 116)).same (mid3.block _ (by simp; omega) (.inr (by omega)))
        have FIN : Hid (StR w5 m hi D M (up M1 q s) t T x w ((wC.setCell ⟨w.heap.size, 0, none⟩ (.pointer (some r.1))).setCell ⟨w.heap.size, 1, none⟩ (.int .i64 (r.2 : Int))) r z') := Lib.hid
          (StR.step um3 hz' (((HR.out.mid.trans (Mid.of_below ba (Nat.le_refl _))).trans (Mid.of_below bb (Nat.le_refl _))).trans mid3) RX RY hh hml)
        have HLT' := Lib.hid hlt'
        obtain ⟨d0, d1, _, _, d4⟩ := RA.duo
        obtain ⟨f0, f1, _, _, f4⟩ := RB.duo
        obtain ⟨g0, g1, _, _, g4⟩ := R5.duo
        obtain ⟨x0, x1, x2, x3, x4⟩ := RX.duo
        clear hR hq hr hz hlt ba RA ua bb hzs RB um3 mid3 z3 hz' hlt' R5 RX RY
        go_wp2
        go_roundg (stepsP (up M1 q s) t T r)
        case rel => exact ⟨r, up M1 q s, z', FIN.out, rfl⟩
        case measure => exact HLT'.out
end Go.Proofs.YtokdhgocgicdnaaGreatDoor

/- Two places are taken for alike: (takenAlike[Tree]).take. -/
namespace Go.Proofs.YtokdhgocgicdnaaGreatDoor
open Go.RowKit

/-- what take knows of two places when both ways were gone -/
structure TkI (w5 : World) (m hi : Nat) (D : List (List TreeD × List TreeD)) (M : List (Place × Place)) (t : Place → Nat) (T : Nat) (x y : List TreeD) (w0 w : World) (r1 r2 : Place) (M2 : List (Place × Place)) : Prop where
  um : UfM w5 m hi w M2
  uf : UfT (AtT w5 hi) D M2 t T
  n1 : lk M2 r1 = none
  n2 : lk M2 r2 = none
  z1 : ∃ z, AtT w5 hi r1 z ∧ Eqv D x z
  z2 : ∃ z, AtT w5 hi r2 z ∧ Eqv D y z
  mid : Mid m (m + 1) w0 w
theorem TkI.alike {w5 w0 w : World} {m hi : Nat} {D : List (List TreeD × List TreeD)} {M M2 : List (Place × Place)} {t : Place → Nat} {T : Nat} {x y : List TreeD} {r1 r2 : Place} (h : TkI w5 m hi D M t T x y w0 w r1 r2 M2) (e : r1 = r2) : Eqv D x y := by
  obtain ⟨z, h1, h2⟩ := h.z1
  obtain ⟨z', h3, h4⟩ := h.z2
  subst e
  obtain rfl := AtT.func _ _ _ h1 h3
  exact .trans _ _ _ h2 (.symm _ _ h4)
theorem TkI.join {w5 w0 w : World} {m hi : Nat} {D : List (List TreeD × List TreeD)} {M M2 : List (Place × Place)} {t : Place → Nat} {T : Nat} {x y : List TreeD} {r1 r2 : Place} (h : TkI w5 m hi D M t T x y w0 w r1 r2 M2) (e : r1 ≠ r2) : ∃ t' T', UfT (AtT w5 hi) ((x, y) :: D) (up M2 r1 r2) t' T' := by
  obtain ⟨z, h1, h2⟩ := h.z1
  obtain ⟨z', h3, h4⟩ := h.z2
  have hd : ∀ e ∈ D, e ∈ (x, y) :: D := fun e he => List.mem_cons_of_mem _ he
  exact (h.uf.mono hd).join h.n1 h.n2 e h1 h3 (.trans _ _ _ (.symm _ _ (h2.mono hd)) (.trans _ _ _ (.pair _ _ List.mem_cons_self) (h4.mono hd)))

set_option maxRecDepth 100000 in
set_option maxHeartbeats 8000000 in
theorem take_any (D : List (List TreeD × List TreeD)) (p q : Place) (x y : List TreeD) (M : List (Place × Place)) (t : Place → Nat) (T m hi : Nat) (w5 w : World) (hM : UfM w5 m hi w M) (hU : UfT (AtT w5 hi) D M t T) (hp : AtT w5 hi p x) (hq : AtT w5 hi q y) (hh : hi ≤ w.heap.size) :
    Calls Tryz.prog 61 #[.map (some m), plV p, plV q] w fun e w' => ∃ b M' t' T', e = .returned (.bool b) ∧ UfM w5 m hi w' M' ∧ (b = false → Eqv D x y ∧ UfT (AtT w5 hi) D M' t' T') ∧ (b = true → UfT (AtT w5 hi) ((x, y) :: D) M' t' T') ∧ Mid m (m + 1) w w' := by
  have hml := hM.map.lt
  have b2 := al2 w (.cells #[.pointer (some p.1), .int .i64 (p.2 : Int)] 116) (.cells #[.pointer (some q.1), .int .i64 (q.2 : Int)] 116)
  have HM := Lib.hid (hM.keep b2 hh)
  have HMD := Lib.hid (Mid.of_below (lo := m) (hi := m + 1) b2 (Nat.le_refl _))
  have R4 := (Row.made w 116 #[.pointer (some p.1), .int .i64 (p.2 : Int)]).alloc (.cells #[.pointer (some q.1), .int .i64 (q.2 : Int)] 116)
  have R5 : Row ((w.alloc (.cells #[.pointer (some p.1), .int .i64 (p.2 : Int)] 116)).alloc (.cells #[.pointer (some q.1), .int .i64 (q.2 : Int)] 116)) (w.heap.size + 1) 116 #[.pointer (some q.1), .int .i64 (q.2 : Int)] := by
    simpa using Row.made (w.alloc (.cells #[.pointer (some p.1), .int .i64 (p.2 : Int)] 116)) 116 #[.pointer (some q.1), .int .i64 (q.2 : Int)]
  have HR4 := Lib.hid R4
  have HR5 := Lib.hid R5
  have hz : ((w.alloc (.cells #[.pointer (some p.1), .int .i64 (p.2 : Int)] 116)).alloc (.cells #[.pointer (some q.1), .int .i64 (q.2 : Int)] 116)).heap.size = w.heap.size + 2 := by simp
  have HZ := Lib.hid hz
  have HU := Lib.hid hU
  clear hM b2 R4 R5 hz hU
  unfold plV
  go_enter Tryz.func61, Tryz.ntmps61
  go_wp2
  generalize (w.alloc (.cells #[.pointer (some p.1), .int .i64 (p.2 : Int)] 116)).alloc (.cells #[.pointer (some q.1), .int .i64 (q.2 : Int)] 116) = wx at HM HMD HR4 HR5 HZ ⊢
  have RD4 : Row wx.drew w.heap.size 116 #[.pointer (some p.1), .int .i64 (p.2 : Int)] := HR4.out
  have RD5 : Row wx.drew (w.heap.size + 1) 116 #[.pointer (some q.1), .int .i64 (q.2 : Int)] := HR5.out
  have HMX : Hid (UfM w5 m hi wx.drew M ∧ wx.drew.heap.size = w.heap.size + 2) := Lib.hid ⟨HM.out.keep ((Below.refl wx.heap.size wx).drew) (by have := HZ.out; omega), HZ.out⟩
  obtain ⟨a0, a1, a2, a3, a4⟩ := RD4.duo
  obtain ⟨c0, c1, c2, c3, c4⟩ := RD5.duo
  go_region_with (first
    | (go_at_call 73; have step := standFor_any D p x M t T m hi w5 wx.drew HMX.out.1 HU.out hp (by have := HMX.out.2; omega); unfold plV at step; refine step.mono ?_; clear step HMX; rintro e wa ⟨r1, M1, zz1, rfl, um1, st1, n1, mid1⟩; have HMY := Lib.hid (And.intro um1 (And.intro st1 (And.intro n1 mid1))); have RA4 := RD4.same (mid1.block _ a4 (.inr (by omega))); have RA5 := RD5.same (mid1.block _ c4 (.inr (by omega))); obtain ⟨e0, e1, e2, e3, e4⟩ := RA4.duo; obtain ⟨f0, f1, f2, f3, f4⟩ := RA5.duo; clear um1 st1 n1 mid1)
    | (go_at_call 73; have step := standFor_any D q y M1 t T m hi w5 wa HMY.out.1 HMY.out.2.1.uf hq (by have := HMY.out.2.2.2.size; omega); unfold plV at step; refine step.mono ?_; clear step; rintro e wb ⟨r2, M2, zz2, rfl, um2, st2, n2, mid2⟩; have HMW := Lib.hid (And.intro um2 (And.intro st2 (And.intro n2 mid2))); have RB4 := RA4.same (mid2.block _ e4 (.inr (by omega))); have RB5 := RA5.same (mid2.block _ f4 (.inr (by omega))); obtain ⟨g0, g1, g2, g3, g4⟩ := RB4.duo; obtain ⟨k0, k1, k2, k3, k4⟩ := RB5.duo; clear um2 st2 n2 mid2))
  all_goals
    obtain ⟨um1, st1, n1, mid1⟩ := HMY.out
    obtain ⟨um2, st2, n2, mid2⟩ := HMW.out
    have hz1 := mid1.size
    have hz2 := mid2.size
    have hzx := HZ.out
    have hzd : wx.drew.heap.size = wx.heap.size := rfl
    have RC4 := (putTwo (a := .pointer (some r1.1)) (b := .int .i64 (r1.2 : Int)) RB4).same (w' := ((((wb.setCell ⟨w.heap.size, 0, none⟩ (.pointer (some r1.1))).setCell ⟨w.heap.size, 1, none⟩ (.int .i64 (r1.2 : Int))).setCell ⟨w.heap.size + 1, 0, none⟩ (.pointer (some r2.1))).setCell ⟨w.heap.size + 1, 1, none⟩ (.int .i64 (r2.2 : Int)))) (two_other _ _ _ _ (by omega))
    have RC5 := putTwo (a := .pointer (some r2.1)) (b := .int .i64 (r2.2 : Int)) (RB5.same (w' := (wb.setCell ⟨w.heap.size, 0, none⟩ (.pointer (some r1.1))).setCell ⟨w.heap.size, 1, none⟩ (.int .i64 (r1.2 : Int))) (two_other _ _ _ _ (by omega)))
    have HT : Hid (TkI w5 m hi D M t T x y w ((((wb.setCell ⟨w.heap.size, 0, none⟩ (.pointer (some r1.1))).setCell ⟨w.heap.size, 1, none⟩ (.int .i64 (r1.2 : Int))).setCell ⟨w.heap.size + 1, 0, none⟩ (.pointer (some r2.1))).setCell ⟨w.heap.size + 1, 1, none⟩ (.int .i64 (r2.2 : Int))) r1 r2 M2) := Lib.hid
      ⟨(um2.two hh (by omega) _ _).two (by omega) (by omega) _ _, st2.uf, (st2.keys r1).2 n1, n2, ⟨zz1, st1.at_, st1.eqv⟩, ⟨zz2, st2.at_, st2.eqv⟩,
        ((((HMD.out.trans (Mid.of_below ((Below.refl wx.heap.size wx).drew) (Nat.le_refl _))).trans mid1).trans mid2).two (Nat.le_refl _) _ _).two (by omega) _ _⟩
    generalize ((((wb.setCell ⟨w.heap.size, 0, none⟩ (.pointer (some r1.1))).setCell ⟨w.heap.size, 1, none⟩ (.int .i64 (r1.2 : Int))).setCell ⟨w.heap.size + 1, 0, none⟩ (.pointer (some r2.1))).setCell ⟨w.heap.size + 1, 1, none⟩ (.int .i64 (r2.2 : Int))) = wq at RC4 RC5 HT ⊢
    clear um1 st1 n1 mid1 um2 st2 n2 mid2 hz1 hz2 hzx hzd RD4 RD5 RA4 RA5 RB4 RB5 a0 a1 a2 a3 a4 c0 c1 c2 c3 c4 e0 e1 e2 e3 e4 f0 f1 f2 f3 f4 g0 g1 g2 g3 g4 k0 k1 k2 k3 k4 HMY HMW HM HMD HR4 HR5 HZ
    have lp : (Op.equalIn 9999 114 (.pointer (some r1.1)) (.pointer (some r2.1))).run Tryz.prog wq = .ok (decide (r1.1 = r2.1)) wq := by
      obtain ⟨z, h1, _⟩ := HT.out.z1
      obtain ⟨z', h2, _⟩ := HT.out.z2
      exact eqPtr 9998 wq _ _ (HT.out.um.ok h1) (HT.out.um.ok h2)
    obtain ⟨a0, a1, _, _, a4⟩ := RC4.duo
    obtain ⟨c0, c1, _, _, c4⟩ := RC5.duo
    clear RC4 RC5
    by_cases hrr : r1 = r2
    · have HE := Lib.hid (HT.out.alike hrr)
      subst hrr
      rw [decide_eq_true rfl] at lp
      go_wp2
      go_ret
      exact ⟨false, M2, t, T, rfl, HT.out.um, (fun _ => ⟨HE.out, HT.out.uf⟩), (fun h => by cases h), HT.out.mid⟩
    · have hi : ((r1.2 : Int) == (r2.2 : Int)) = decide (r1.2 = r2.2) := by
        rw [Bool.eq_iff_iff, beq_iff_eq, decide_eq_true_iff]; omega
      have hor : decide (r1.2 = r2.2) = false ∨ (decide (r1.2 = r2.2) = true ∧ decide (r1.1 = r2.1) = false) := by
        by_cases h2 : r1.2 = r2.2
        · exact .inr ⟨decide_eq_true h2, decide_eq_false fun h1 => hrr (Prod.ext h1 h2)⟩
        · exact .inl (decide_eq_false h2)
      obtain ⟨t', T', hj⟩ := HT.out.join hrr
      obtain ⟨zz, hz1, _⟩ := HT.out.z1
      obtain ⟨wC, hup, um3, mid3, z3⟩ := HT.out.um.put (q := r2) hz1 (by have := HT.out.mid.size; omega)
      unfold plV at hup
      have FIN := Lib.hid (And.intro um3 (And.intro hj (HT.out.mid.trans mid3)))
      clear hrr hj hz1 um3 mid3 z3
      rcases hor with hor | ⟨hor, hor2⟩
      · rw [hor] at hi
        cases hd : decide (r1.1 = r2.1)
        all_goals
          rw [hd] at lp
          clear hd
          go_wp2
          go_ret
          exact ⟨true, _, t', T', rfl, FIN.out.1, (fun h => by cases h), (fun _ => FIN.out.2.1), FIN.out.2.2⟩
      · rw [hor] at hi
        rw [hor2] at lp
        go_wp2
        go_ret
        exact ⟨true, _, t', T', rfl, FIN.out.1, (fun h => by cases h), (fun _ => FIN.out.2.1), FIN.out.2.2⟩
end Go.Proofs.YtokdhgocgicdnaaGreatDoor

/- Lists of trees to be held against each other: the stack of them in memory; what two trees have of their own. -/
namespace Go.Proofs.YtokdhgocgicdnaaGreatDoor
open Go.RowKit

def ownT (t : TreeD) : Int × ByteArray := (t.rule, t.tok)
def OwnsEq (x y : List TreeD) : Prop := x.length = y.length ∧ ∀ i (h : i < x.length) (h' : i < y.length), ownT x[i] = ownT y[i]
theorem ownsEq_of {x y : List TreeD} (h : x = y) : OwnsEq x y := by subst h; exact ⟨rfl, fun _ _ _ => rfl⟩
theorem ext_own (a b : TreeD) (h : ownT a = ownT b) (k : a.kids = b.kids) : a = b := by
  unfold ownT at h
  injection h with h1 h2
  exact TreeD.ext_of h1 h2 k
theorem kids_less (x : List TreeD) (i : Nat) (h : i < x.length) : sizeTs x[i].kids < sizeTs x := by
  have a := sizeTs_get x i h
  have b := sizeT_eq x[i]
  omega
def costQ (L : List (Pr2 TreeD)) : Nat := (L.map fun p => sizeTs p.a + 1).sum
theorem costQ_snoc (L : List (Pr2 TreeD)) (p : Pr2 TreeD) : costQ (L ++ [p]) = costQ L + (sizeTs p.a + 1) := by simp [costQ]
theorem costQ_len (L : List (Pr2 TreeD)) : L.length ≤ costQ L := by
  induction L with
  | nil => simp
  | cons p L ih => simp [costQ] at ih ⊢; omega
/-- the stack in memory -/
def flatQ (L : List (Pr2 TreeD)) : List Value := L.flatMap fun p => [p.va, p.vb]
theorem flatQ_snoc (L : List (Pr2 TreeD)) (p : Pr2 TreeD) : flatQ (L ++ [p]) = flatQ L ++ [p.va, p.vb] := by simp [flatQ]
theorem flatQ_len (L : List (Pr2 TreeD)) : (flatQ L).length = L.length * 2 := by
  induction L with
  | nil => rfl
  | cons x l ih => simp only [flatQ, List.flatMap_cons, List.length_append, List.length_cons, List.length_nil] at ih ⊢; omega
def Stq (w : World) (base : Nat) (v : Value) (L : List (Pr2 TreeD)) : Prop := w.ownsRow base 110 2 v L.length (flatQ L)
theorem Stq.keep {w w' : World} {base : Nat} {v : Value} {L : List (Pr2 TreeD)} (h : Stq w base v L) (k : ∀ g, v.ownBlock = some g → w'.heap[g]? = w.heap[g]?) : Stq w' base v L := by
  refine ⟨h.1, ?_⟩
  rcases h.2 with a | ⟨g, cap, cur, rfl, hb, hh, rest⟩
  · exact .inl a
  · exact .inr ⟨g, cap, cur, rfl, hb, (k g rfl).trans hh, rest⟩
theorem Stq.block {w : World} {base : Nat} {v : Value} {L : List (Pr2 TreeD)} (h : Stq w base v L) : ∀ g, v.ownBlock = some g → base ≤ g ∧ g < w.heap.size := fun g hg => World.ownsRow.lt h g hg
theorem Stq.form {w : World} {base : Nat} {v : Value} {L : List (Pr2 TreeD)} (h : Stq w base v L) : ∃ A cap, v = .slice A L.length cap ∧ L.length ≤ cap ∧ cap ≤ maxLen := by
  rcases h.2 with ⟨rfl, h0⟩ | ⟨g, cap, cur, rfl, hb, hh, h1, h2, _⟩
  · exact ⟨none, 0, by rw [h0], by omega, by unfold maxLen; omega⟩
  · exact ⟨_, cap, rfl, h1, h2⟩
theorem Stq.parts {w : World} {base : Nat} {v : Value} {L : List (Pr2 TreeD)} {p : Pr2 TreeD} (h : Stq w base v (L ++ [p])) :
    ∃ g cap, v = .slice (some ⟨g, 0, none⟩) (L.length + 1) cap ∧ base ≤ g ∧ g < w.heap.size ∧ L.length + 1 ≤ cap ∧ cap ≤ maxLen ∧
      w.cell? ⟨g, L.length * 2, none⟩ = some p.va ∧ w.cell? ⟨g, L.length * 2 + 1, none⟩ = some p.vb ∧ Stq w base (.slice (some ⟨g, 0, none⟩) L.length cap) L := by
  have hl : (L ++ [p]).length = L.length + 1 := by simp
  unfold Stq at h
  rw [flatQ_snoc, hl] at h
  have hf := flatQ_len L
  obtain ⟨h1, h2⟩ := h
  rcases h2 with ⟨_, h0⟩ | ⟨g, cap, cur, rfl, hb, hh, hc, hm, hs, ht⟩
  · omega
  have hr : Row w g 110 cur := hh
  have cell : ∀ j, j < (L.length + 1) * 2 → cur[j]? = (flatQ L ++ [p.va, p.vb])[j]? := fun j hj => by
    rw [← ht, List.getElem?_take_of_lt hj, Array.getElem?_toList]
  refine ⟨g, cap, rfl, hb, hr.lt, hc, hm, ?_, ?_, ?_⟩
  · rw [hr.cell, cell _ (by omega), List.getElem?_append_right (by omega), hf]; simp
  · rw [hr.cell, cell _ (by omega), List.getElem?_append_right (by omega), hf]; simp [show L.length * 2 + 1 - L.length * 2 = 1 by omega]
  · refine ⟨hf, .inr ⟨g, cap, cur, rfl, hb, hh, by omega, hm, hs, ?_⟩⟩
    have := congrArg (List.take (L.length * 2)) ht
    rw [List.take_take, Nat.min_eq_left (by omega), List.take_append_of_le_length (by omega)] at this
    rw [this]
    exact List.take_of_length_le (by omega)
theorem Stq.made (w : World) (base : Nat) (p : Pr2 TreeD) (hb : base ≤ w.heap.size) : Stq (w.alloc (.cells #[p.va, p.vb] 110)) base (.slice (some ⟨w.heap.size, 0, none⟩) 1 1) [p] := by
  refine ⟨by simp [flatQ], .inr ⟨w.heap.size, 1, _, rfl, hb, heap_alloc_new w _, by simp, by unfold maxLen; omega, rfl, ?_⟩⟩
  simp [flatQ]
theorem Tryz.infoTwoU : (Tryz.prog.info? 110).map (fun i => (i.zero, i.size, i.bytes)) = some (some (.agg #[.slice none 0 0, .slice none 0 0]), 2, 48) := by kernel_rfl
theorem twoU_one (A B : Option Addr) (n c m d : Nat) : ∀ u ∈ [Value.slice A n c, .slice B m d], u.oneCell' = true := by
  intro u hu
  simp only [List.mem_cons, List.not_mem_nil, or_false] at hu
  rcases hu with rfl | rfl <;> rfl
theorem twoU_new (w : World) (a b : Value) : ∀ j u, [a, b][j]? = some u → (w.alloc (.cells #[a, b] 110)).cell? ((⟨w.heap.size, 0, none⟩ : Addr).add j) = some u :=
  World.news_of_block (cs := #[a, b]) (t := 110) (fr := (0, 0)) (heap_alloc_new _ _)
end Go.Proofs.YtokdhgocgicdnaaGreatDoor

/- Are two lists of trees alike in what is their own? slices.EqualFunc, the function literals of impl.TreeSame. -/
namespace Go.Proofs.YtokdhgocgicdnaaGreatDoor
open Go.RowKit

set_option maxRecDepth 100000 in
set_option maxHeartbeats 1000000 in
theorem sameOwn_any (a b : TreeD) (A B : Option Addr) (c d : Nat) (w : World) :
    Calls Tryz.prog 43 #[.agg #[.int .i64 a.rule, .string a.tok, .slice A a.kids.length c], .agg #[.int .i64 b.rule, .string b.tok, .slice B b.kids.length d]] w fun e w' => e = .returned (.bool (decide (ownT a = ownT b))) ∧ Below w.heap.size w w' := by
  by_cases h1 : a.rule = b.rule
  · have e1 : (a.rule == b.rule) = true := by rw [beq_iff_eq]; exact h1
    by_cases h2 : a.tok = b.tok
    · have e2 := bytes_beq_t h2
      have HE := Lib.hid (decide_eq_true (show ownT a = ownT b by unfold ownT; rw [h1, h2]))
      clear h2 h1
      go_enter Tryz.func43, Tryz.ntmps43
      go_wp2
      go_ret
      exact ⟨ret_bool HE.out.symm, al2 _ _ _⟩
    · have e2 := bytes_beq_f h2
      have HE := Lib.hid (decide_eq_false (fun h : ownT a = ownT b => h2 (congrArg Prod.snd h)))
      clear h1
      go_enter Tryz.func43, Tryz.ntmps43
      go_wp2
      go_ret
      exact ⟨ret_bool HE.out.symm, al2 _ _ _⟩
  · have e1 : (a.rule == b.rule) = false := by rw [beq_eq_false_iff_ne]; exact h1
    have HE := Lib.hid (decide_eq_false (fun h : ownT a = ownT b => h1 (congrArg Prod.fst h)))
    go_enter Tryz.func43, Tryz.ntmps43
    go_wp2
    go_ret
    exact ⟨ret_bool HE.out.symm, al2 _ _ _⟩
set_option maxRecDepth 100000 in
set_option maxHeartbeats 1000000 in
theorem kidsOfU_any (t : TreeD) (A : Option Addr) (c : Nat) (w : World) :
    Calls Tryz.prog 42 #[.agg #[.int .i64 t.rule, .string t.tok, .slice A t.kids.length c]] w fun e w' => e = .returned (.slice A t.kids.length c) ∧ Below w.heap.size w w' := by
  have b1 := al1 w (.cells #[.int .i64 t.rule, .string t.tok, .slice A t.kids.length c] 29)
  have R := Row.made w 29 #[.int .i64 t.rule, .string t.tok, .slice A t.kids.length c]
  have c2 := R.cell 2
  simp at c2
  go_enter Tryz.func42, Tryz.ntmps42
  go_wp2
  go_ret
  exact ⟨rfl, b1⟩
set_option maxRecDepth 100000 in
set_option maxHeartbeats 4000000 in
theorem equalOwn_any (x y : List TreeD) (z : Bool) (v u : Value) (lo hi : Nat) (w : World) (hv : Kd z w lo hi v x) (hu : Kd z w lo hi u y) (hh : hi ≤ w.heap.size) :
    Calls Tryz.prog 60 #[v, u, .func (.func 43) #[] #[]] w fun e w' => ∃ a, e = .returned (.bool a) ∧ (a = true ↔ OwnsEq x y) ∧ Below w.heap.size w w' := by
  obtain ⟨A, c, U, rfl, hlc, hc, _, hcell, hsub⟩ := hv.parts
  obtain ⟨B, d, V, rfl, hld, hd, _, hcell', hsub'⟩ := hu.parts
  have HC := Lib.hid hcell
  have HC' := Lib.hid hcell'
  have HB := Lib.hid hsub
  have HB' := Lib.hid hsub'
  unfold maxLen at hc hd
  clear hcell hcell' hsub hsub' hv hu
  by_cases hn : x.length = y.length
  · have n0 : ((x.length : Int) != (y.length : Int)) = false := by rw [bne_eq_false_iff_eq]; omega
    have HN := Lib.hid hn
    clear hn
    go_enter Tryz.func60, Tryz.ntmps60
    go_wp2
    go_loopg [17] x.length (fun gk i wr => ∃ k : Nat, k ≤ x.length ∧ i = .int .i64 k ∧ Below w.heap.size w wr ∧ (∀ j (h : j < x.length) (h' : j < y.length), j < k → ownT x[j] = ownT y[j]) ∧ gk = x.length - k)
    case atStart => exact ⟨0, by omega, rfl, Below.refl _ _, (fun j _ _ hj => by omega), rfl⟩
    case round =>
      obtain ⟨k, hk, rfl, hbw, hall, rfl⟩ := hrel
      have HA := Lib.hid hall
      clear hall
      have hsw := hbw.size
      by_cases hlt : k < x.length
      · have hlt' : k < y.length := by have := HN.out; omega
        obtain ⟨b, off, rfl, _, hbh, _, hcc⟩ := HC.out (by omega)
        obtain ⟨hc0, hc1, hc2⟩ := hcc k hlt
        obtain ⟨b', off', rfl, _, hbh', _, hcc'⟩ := HC'.out (by omega)
        obtain ⟨hd0, hd1, hd2⟩ := hcc' k hlt'
        obtain ⟨A2, c2, U2, e2, -⟩ := (HB.out k hlt).parts
        obtain ⟨B2, d2, V2, f2, -⟩ := (HB'.out k hlt').parts
        rw [e2] at hc2
        rw [f2] at hd2
        have k0 := (hbw.cell (p := ⟨b, off + k * 3, none⟩) (by show b < _; omega)).trans hc0
        have k1 := (hbw.cell (p := ⟨b, off + k * 3 + 1, none⟩) (by show b < _; omega)).trans hc1
        have k2 := (hbw.cell (p := ⟨b, off + k * 3 + 2, none⟩) (by show b < _; omega)).trans hc2
        have m0 := (hbw.cell (p := ⟨b', off' + k * 3, none⟩) (by show b' < _; omega)).trans hd0
        have m1 := (hbw.cell (p := ⟨b', off' + k * 3 + 1, none⟩) (by show b' < _; omega)).trans hd1
        have m2 := (hbw.cell (p := ⟨b', off' + k * 3 + 2, none⟩) (by show b' < _; omega)).trans hd2
        have i1 : (k : Int) < (x.length : Int) := by omega
        have i2 : (k : Int) < (y.length : Int) := by omega
        have hb1 : b < wr.heap.size := by omega
        have hb2 : b' < wr.heap.size := by omega
        clear hcc hcc' hc0 hc1 hc2 hd0 hd1 hd2 e2 f2
        by_cases ht : ownT x[k] = ownT y[k]
        · have HT := Lib.hid ht
          have HD := Lib.hid (decide_eq_true ht)
          clear ht
          go_wp2_with fail
          refine (sameOwn_any x[k] y[k] _ _ _ _ _).mono ?_
          rintro e w1 ⟨rfl, b1⟩
          rw [HD.out]
          have hb3 : Below wr.heap.size wr w1 := (al2 _ _ _).trans (b1.mono (by simp; omega))
          go_wp2
          go_roundg (x.length - (k + 1))
          case rel => exact ⟨k + 1, by omega, by go_num, hbw.trans (hb3.mono hsw), (fun j hj hj' hjk => by
            by_cases e : j = k
            · subst e; exact HT.out
            · exact HA.out j hj hj' (by omega)), rfl⟩
          case measure => omega
        · have HE : Hid (¬ OwnsEq x y) := Lib.hid (fun h => ht (h.2 k hlt hlt'))
          have HD := Lib.hid (decide_eq_false ht)
          clear ht
          go_wp2_with fail
          refine (sameOwn_any x[k] y[k] _ _ _ _ _).mono ?_
          rintro e w1 ⟨rfl, b1⟩
          rw [HD.out]
          have hb3 : Below wr.heap.size wr w1 := (al2 _ _ _).trans (b1.mono (by simp; omega))
          go_wp2
          go_ret
          exact ⟨false, rfl, ⟨(fun h => by cases h), fun h => absurd h HE.out⟩, hbw.trans (hb3.mono hsw)⟩
      · have HE : Hid (OwnsEq x y) := Lib.hid ⟨HN.out, fun i hi hi' => HA.out i hi hi' (by omega)⟩
        go_wp2
        go_ret
        exact ⟨true, rfl, ⟨fun _ => HE.out, fun _ => rfl⟩, hbw⟩
  · have n0 : ((x.length : Int) != (y.length : Int)) = true := by rw [bne_iff_ne]; omega
    go_enter Tryz.func60, Tryz.ntmps60
    go_wp2
    go_ret
    exact ⟨false, rfl, ⟨(fun h => by cases h), fun h => absurd h.1 hn⟩, Below.refl _ _⟩
end Go.Proofs.YtokdhgocgicdnaaGreatDoor
