/- The heads of Mades, of the model: spec.l07Heads. -/
import Derived.Test.YtiochjagolijfaaCls
import Derived.Test.YtiochjagolijfaaJRnx
namespace Go.Proofs.Ytiochjagolijfaa
open Go.RowKit

theorem DM.heads {z : Bool} {w : World} {lo hi : Nat} {v : Value} {ms : List MadeD} (h : DM z w lo hi v ms) : ∀ m ∈ ms, m.head.size ≤ maxLen ∧ ∀ s ∈ m.body, s.size ≤ maxLen := fun m hm => by
  obtain ⟨i, hi, rfl⟩ := List.mem_iff_getElem.1 hm
  obtain ⟨_, _, _, _, _, hcell⟩ := h
  obtain ⟨_, _, _, _, _, _, hcc⟩ := hcell (by omega)
  obtain ⟨q1, _, _, _, _, _, _, _, _, ⟨_, _, _, _, _, q, _⟩, _⟩ := hcc i hi
  exact ⟨q1, q⟩
theorem sts_in {w : World} {base : Nat} {v : Value} {ss : List ByteArray} (h : Sts w base v ss) {i : Nat} {t : ByteArray} (hi : ss[i]? = some t) : ∃ g cap, v = .slice (some ⟨g, 0, none⟩) ss.length cap ∧ g < w.heap.size ∧ base ≤ g ∧ w.cell? ⟨g, i, none⟩ = some (.string t) := by
  obtain ⟨g, cap, rfl, hc⟩ := sts_at h hi
  obtain ⟨h1, h2⟩ := World.ownsRow.lt h g rfl
  exact ⟨g, cap, rfl, h2, h1, hc⟩
set_option maxRecDepth 100000 in
set_option maxHeartbeats 4000000 in
theorem l07Heads_any (v : Value) (ms : List MadeD) (lo hi : Nat) (w : World) (h : DM true w lo hi v ms) (hhi : hi ≤ w.heap.size) (hn : ms.length ≤ 1048576) :
    Calls Try.prog 38 #[v] w fun e w' => ∃ u hs, e = .returned u ∧ Sts w' w.heap.size u hs ∧ (∀ m ∈ ms, m.head ∈ hs) ∧ (∀ s ∈ hs, s.size ≤ maxLen) ∧ hs.length ≤ ms.length ∧ Below w.heap.size w w' := by
  obtain ⟨s0, hs0, hx0, hx1, hx2⟩ := info_parts Try.infoStr
  have HZ := Lib.hid h.heads
  obtain ⟨A, c, rfl, hlc, hc, hcell⟩ := h
  have HC := Lib.hid hcell
  unfold maxLen at hc
  have ha := al1 w (.cells #[] 9)
  have HI0 := Lib.hid (And.intro (Sts.nil w (Nat.le_refl _)) ha)
  clear hcell ha
  go_enter Try.func38, Try.ntmps38
  go_wp2
  go_loopg [3, 4] ms.length (fun gk v3 v4 wr => ∃ (k : Nat) (hs : List ByteArray), v4 = .int .i64 k ∧ k ≤ ms.length ∧ Sts wr w.heap.size v3 hs ∧ (∀ i (h : i < ms.length), i < k → ms[i].head ∈ hs) ∧ (∀ s ∈ hs, s.size ≤ maxLen) ∧ hs.length ≤ k ∧ Below w.heap.size w wr ∧ gk = ms.length - k)
  case atStart => exact ⟨0, [], rfl, by omega, HI0.out.1, (fun _ _ h => by omega), (fun s h => by simp at h), Nat.le_refl _, HI0.out.2, rfl⟩
  case round =>
    clear HI0
    obtain ⟨k, hs, rfl, hk, hS, hall, hz, hle, hbw, rfl⟩ := hrel
    have hzw := hbw.size
    by_cases hkm : k < ms.length
    · obtain ⟨b, off, rfl, _, hbh, _, hcc⟩ := HC.out (by omega)
      obtain ⟨hhs, htop, hc0, _⟩ := hcc k hkm
      have k0 := (hbw.cell (p := ⟨b, off + k * 5, none⟩) (by show b < _; omega)).trans hc0
      have i1 : (k : Int) < (ms.length : Int) := by omega
      have HB := Lib.hid hbw
      have HS := Lib.hid hS
      have HS2 := Lib.hid (hS.strs hz)
      have HA := Lib.hid hall
      have HZ2 := Lib.hid hz
      clear hcc hc0 hbw hall hz hS
      cases hin : inB hs ms[k].head with
      | true =>
        have HIN := Lib.hid hin
        clear hin
        go_wp2_with fail
        refine (specIn_any _ hs ms[k].head _ _ _ HS2.out).mono ?_
        rintro e w9 ⟨rfl, rfl⟩
        rw [HIN.out]
        go_wp2
        go_roundg (ms.length - (k + 1))
        case rel => exact ⟨k + 1, hs, by go_num, by omega, HS.out, (fun i hi hik => by
            by_cases q : i = k
            · subst q; exact (inB_iff _ _).1 HIN.out
            · exact HA.out i hi (by omega)), HZ2.out, by omega, HB.out, rfl⟩
        case measure => omega
      | false =>
        have HIN := Lib.hid hin
        clear hin
        go_wp2_with fail
        refine (specIn_any _ hs ms[k].head _ _ _ HS2.out).mono ?_
        rintro e w9 ⟨rfl, rfl⟩
        rw [HIN.out]
        go_wp2_with (at_builtin; refine wpList_append_lies _ rfl _ _ 63 rfl w.heap.size 9 s0 _ 1 16 Try.underlying63 hs0 hx0 hx1 hx2 rfl (by decide) _ hs.length (hs.map Value.string) rfl (World.ownsRow.alloc HS.out _) ⟨wr.heap.size, 0, none⟩ 1 1 [.string ms[k].head] rfl rfl (cell_one_new _ _ _) (one_str _) (by omega) (by unfold maxLen; omega) (by omega) (by simp; omega) (wr.heap.size + 1) (by simp) ?_)
        intro gg capg w5 hown5 hg5 hat5 hlt5
        have FIN : Hid (Sts w5 w.heap.size (.slice (some ⟨gg, 0, none⟩) (hs.length + 1) capg) (hs ++ [ms[k].head]) ∧ Below w.heap.size w w5) := Lib.hid ⟨Sts.one _ hown5, Tx.below_grown (HB.out.trans ((al1 wr _).mono hzw)) (World.ownsRow.alloc HS.out _) hg5 (by simp; omega) (Nat.le_refl _)⟩
        clear hown5 hg5 hat5 hlt5
        go_wp2
        go_roundg (ms.length - (k + 1))
        case rel => exact ⟨k + 1, _, by go_num, by omega, FIN.out.1, (fun i hi hik => by
            by_cases q : i = k
            · subst q; simp
            · exact List.mem_append_left _ (HA.out i hi (by omega))), (fun s hs' => by
            rw [List.mem_append, List.mem_singleton] at hs'
            rcases hs' with hs' | rfl
            · exact HZ2.out s hs'
            · exact hhs), by rw [List.length_append, List.length_singleton]; omega, FIN.out.2, rfl⟩
        case measure => omega
    · have FIN := Lib.hid (And.intro hS (And.intro hall (And.intro hz hbw)))
      clear hS hall hz hbw
      go_wp2
      go_ret
      exact ⟨_, hs, rfl, FIN.out.1, (fun m hm => by
        obtain ⟨i, hi, rfl⟩ := List.getElem_of_mem hm
        exact FIN.out.2.1 i hi (by omega)), FIN.out.2.2.1, by omega, FIN.out.2.2.2⟩
end Go.Proofs.Ytiochjagolijfaa
