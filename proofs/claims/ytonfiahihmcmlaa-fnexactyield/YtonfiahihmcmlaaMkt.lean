/- Marks are laid into a tree of the call's own: laws.markTreeS, laws.markTree. -/
import Derived.Test.YtonfiahihmcmlaaTrt
import Derived.Test.YtonfiahihmcmlaaMark
import Derived.Deep.LoopGhost
namespace Go.Proofs.Ytonfiahihmcmlaa
open Go.RowKit

/-- all shapes stand -/
def Stands (lo hi : Nat) (w w' : World) : Prop := ∀ (v : Value) (ts : List TreeD), Shp w lo hi v ts → Shp w' lo hi v ts
theorem Stands.trans {lo hi : Nat} {a b c : World} (h : Stands lo hi a b) (k : Stands lo hi b c) : Stands lo hi a c := fun v ts x => k v ts (h v ts x)
theorem Stands.below {lo hi B : Nat} {w w' : World} (h : Below B w w') (hB : hi ≤ B) : Stands lo hi w w' := fun _ _ x => x.under h hB
theorem Stands.put {lo hi : Nat} (w : World) (g i : Nat) (x : Value) (hi2 : ∀ j, i ≠ j * 3 + 2) : Stands lo hi w (w.setCell ⟨g, i, none⟩ x) := fun _ _ h => h.put g i x hi2

def MkS (ts : List TreeD) : Prop := ∀ (v : Value) (k lo hi : Nat) (w : World), Shp w lo hi v ts → hi ≤ w.heap.size → 1 ≤ k → k + 2 * sizeTs ts ≤ 1000000000 →
  Calls Try.prog 111 #[v, .int .i64 (k : Int)] w fun e w' => e = .returned (.int .i64 ((k + 2 * sizeTs ts : Nat) : Int)) ∧ Mid lo hi w w' ∧ Stands lo hi w w'

set_option maxRecDepth 100000 in
set_option maxHeartbeats 4000000 in
theorem markTreeS_of (ts : List TreeD) (ih : ∀ i (h : i < ts.length), MkS ts[i].kids) : MkS ts := by
  intro v k lo hi w h hh hk1 hk2
  have HS := Lib.hid h
  obtain ⟨A, c, U, rfl, hlc, hc, hcell, hsub⟩ := h.parts
  have HC := Lib.hid hcell
  have HB := Lib.hid hsub
  unfold maxLen at hc
  have hlen := length_sizeTs ts
  clear h hcell hsub
  go_enter Try.func111, Try.ntmps111
  go_wp2
  go_loopg [1, 5] ts.length (fun gk s1 s5 wr => ∃ j m : Nat, j ≤ ts.length ∧ s5 = .int .i64 j ∧ s1 = .int .i64 (m : Int) ∧ m = k + 2 * sizeTs (ts.take j) ∧ Mid lo hi w wr ∧ Stands lo hi w wr ∧ gk = ts.length - j)
  case atStart => exact ⟨0, k, by omega, rfl, rfl, by simp [sizeTs], Mid.refl _ _ _, (fun _ _ x => x), rfl⟩
  case round =>
    obtain ⟨j, m, hj, rfl, rfl, hm, hmid, hst, rfl⟩ := hrel
    have HM := Lib.hid hm
    have hle := sizeTs_take_le ts j
    have hsz := hmid.size
    by_cases hlt : j < ts.length
    · have hsj := sizeTs_take ts j hlt
      have hst1 := sizeT_eq ts[j]
      have hle1 := sizeTs_take_le ts (j + 1)
      obtain ⟨b, cur0, rfl, hb1, hb2, _, _, hcc0⟩ := HC.out (by omega)
      have hs1 := hst _ _ HS.out
      obtain ⟨A1, c1, U1, e1, _, _, hcell1, hsub1⟩ := hs1.parts
      injection e1 with e1 e2 e3
      subst e1 e3
      obtain ⟨b', cur, e4, _, _, hrow, hcs, hcc⟩ := hcell1 (by omega)
      injection e4 with e4
      injection e4 with e4 _
      subst e4
      obtain ⟨u0, q0⟩ := hrow.there (show j * 3 < cur.size by omega)
      have f0 := hrow.free (j * 3)
      have i1 : (j : Int) < (ts.length : Int) := by omega
      have R1 := hrow.put (j * 3) (.int .i64 (m : Int))
      have M1 := hmid.setCell (p := ⟨b, j * 3, none⟩) hb1 hb2 (.int .i64 (m : Int))
      have S1 := hst.trans (Stands.put (lo := lo) (hi := hi) wr b (j * 3) (.int .i64 (m : Int)) (fun i => by omega))
      have z1 : (wr.setCell ⟨b, j * 3, none⟩ (.int .i64 (m : Int))).heap.size = wr.heap.size := by simp [World.setCell]
      have hkid := hcc j hlt
      have HSUB := Lib.hid (hsub1 j hlt)
      obtain ⟨A2, c2, U2, e5, -⟩ := (hsub1 j hlt).parts
      rw [e5] at hkid HSUB
      have hm9 : m + 2 + 2 * sizeTs ts[j].kids ≤ 1000000000 := by omega
      have HM2 : Hid (m + 2 + 2 * sizeTs ts[j].kids = k + 2 * sizeTs (ts.take (j + 1))) := Lib.hid (by omega)
      clear hm hsj hst1 hle1 hle
      clear hrow hcell1 hsub1 hcc hcc0 hs1 e2
      have HSUB1 := Lib.hid ((Stands.put (lo := lo) (hi := hi) wr b (j * 3) (.int .i64 (m : Int)) (fun i => by omega)) _ _ HSUB.out)
      go_wp2_with fail
      generalize wr.setCell ⟨b, j * 3, none⟩ (.int .i64 (m : Int)) = w1 at R1 M1 S1 z1 HSUB1 ⊢
      have step := markText_any (m + 1) w1 (by omega) (by omega)
      rw [show ((m + 1 : Nat) : Int) = (m : Int) + 1 by omega] at step
      refine step.mono ?_
      clear step
      rintro e w2 ⟨rfl, b2⟩
      have zb2 := b2.size
      have R2 := R1.below b2 (by have := R1.lt; omega)
      obtain ⟨u1, q1⟩ := R2.there (i := j * 3 + 1) (by simp; omega)
      have f1 := R2.free (j * 3 + 1)
      have M2 := M1.trans (Mid.of_below (lo := lo) (hi := hi) b2 (Nat.le_refl _))
      have S2 := S1.trans (Stands.below (lo := lo) (hi := hi) b2 (by omega))
      have R3 := R2.put (j * 3 + 1) (.string (mt (m + 1)))
      have M3 := M2.setCell (p := ⟨b, j * 3 + 1, none⟩) hb1 hb2 (.string (mt (m + 1)))
      have S3 := S2.trans (Stands.put (lo := lo) (hi := hi) w2 b (j * 3 + 1) (.string (mt (m + 1))) (fun i => by omega))
      have z3 : (w2.setCell ⟨b, j * 3 + 1, none⟩ (.string (mt (m + 1)))).heap.size = w2.heap.size := by simp [World.setCell]
      have q2 := R3.cell (j * 3 + 2)
      rw [Array.getElem?_setIfInBounds_ne (by omega), Array.getElem?_setIfInBounds_ne (by omega), hkid] at q2
      have HSUB3 := Lib.hid ((Stands.put (lo := lo) (hi := hi) w2 b (j * 3 + 1) (.string (mt (m + 1))) (fun i => by omega)) _ _ ((Stands.below (lo := lo) (hi := hi) b2 (by omega)) _ _ (HSUB1.out)))
      have H3 := Lib.hid (And.intro M3 S3)
      clear R1 M1 S1 R2 M2 S2 M3 S3 b2 HSUB HSUB1
      go_wp2_with fail
      generalize w2.setCell ⟨b, j * 3 + 1, none⟩ (.string (mt (m + 1))) = w3 at R3 z3 q2 HSUB3 H3 ⊢
      have step := ih j hlt (.slice A2 ts[j].kids.length c2) (m + 2) lo hi w3 HSUB3.out (by omega) (by omega) hm9
      rw [show ((m + 2 : Nat) : Int) = (m : Int) + 1 + 1 by omega] at step
      refine step.mono ?_
      rintro e w4 ⟨rfl, hmid4, hst4⟩
      clear step
      go_wp2
      go_roundg (ts.length - (j + 1))
      case rel => exact ⟨j + 1, m + 2 + 2 * sizeTs ts[j].kids, by omega, by go_num, rfl, HM2.out, H3.out.1.trans hmid4, H3.out.2.trans hst4, rfl⟩
      case measure => omega
    · have hje : j = ts.length := by omega
      have HJ := Lib.hid hje
      clear hje
      go_wp2
      go_ret
      refine ⟨ret_int ?_, hmid, hst⟩
      have e := HJ.out
      subst e
      have := HM.out
      rw [List.take_length] at this
      omega
theorem markTreeS_any (ts : List TreeD) : MkS ts := kids_ind markTreeS_of ts

set_option maxRecDepth 100000 in
set_option maxHeartbeats 1000000 in
theorem markTree_any (t : TreeD) (u : Value) (k lo hi : Nat) (w : World) (h : Shp w lo hi u t.kids) (hh : hi ≤ w.heap.size) (hk1 : 1 ≤ k) (hk2 : k + 2 * sizeTs t.kids ≤ 1000000000) :
    Calls Try.prog 51 #[trV t u, .int .i64 (k : Int)] w fun e w' => e = .returned (.int .i64 ((k + 2 * sizeTs t.kids : Nat) : Int)) ∧ Mid lo hi w w' := by
  have a := al1 w (.cells #[.int .i64 t.rule, .string t.tok, u] 62)
  have HS := Lib.hid (h.under a hh)
  obtain ⟨A, c, U, rfl, -⟩ := h.parts
  unfold trV
  go_enter Try.func51, Try.ntmps51
  go_wp2_with fail
  refine (markTreeS_any t.kids _ k lo hi _ HS.out (by simp; omega) hk1 hk2).mono ?_
  rintro e w1 ⟨rfl, hm, -⟩
  go_wp2
  go_ret
  exact ⟨rfl, (Mid.of_below a (Nat.le_refl _)).trans hm⟩
end Go.Proofs.Ytonfiahihmcmlaa
