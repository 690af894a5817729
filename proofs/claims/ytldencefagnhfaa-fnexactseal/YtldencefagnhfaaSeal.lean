/- The walks of Seal and Unseal, the program's and the model's. -/
import Derived.Test.YtldencefagnhfaaFour
import Derived.Test.YtldencefagnhfaaCrc
namespace Go.Proofs.Ytldencefagnhfaa
open Go.RowKit

def sealOf (s : ByteArray) : ByteArray := if 7996 < s.size then bs [] else bs (s.data.toList ++ four (crcOf 0 s.data.toList))
theorem sealOf_long {s : ByteArray} (h : 7996 < s.size) : sealOf s = bs [] := if_pos h
theorem sealOf_short {s : ByteArray} (h : ¬ 7996 < s.size) : sealOf s = bs (s.data.toList ++ four (crcOf 0 s.data.toList)) := if_neg h
theorem four_size (n : Nat) : (bs (four n)).size = 4 := rfl
theorem bs_app (s : ByteArray) (l : List UInt8) : s ++ bs l = bs (s.data.toList ++ l) := ByteArray.mk_append_mk s.data.toList l

set_option maxHeartbeats 1000000 in
theorem implSeal_any (s : ByteArray) (w : World) (hs : s.size ≤ maxLen) :
    Calls Try.prog 12 #[.string s] w fun e w' => e = .returned (.string (sealOf s)) ∧ Below w.heap.size w w' := by
  have hs' := hs
  unfold maxLen at hs
  by_cases h : 7996 < s.size
  · rw [sealOf_long h]
    go_enter Try.func12, Try.ntmps12
    go_wp2
    go_ret
    exact ⟨rfl, Below.refl _ _⟩
  · rw [sealOf_short h]
    have hl := crcOf_lt (show 0 < 4294967296 by omega) s.data.toList
    have HC := Lib.hid (crcMoreOf_short (show ¬ 8000 < s.size by omega))
    have h4 := four_size (crcOf 0 s.data.toList)
    have H4 := Lib.hid h4
    clear h4
    go_enter Try.func12, Try.ntmps12
    go_wp2_with fail
    refine (implCrc_all _ _ hs').mono ?_
    rintro e w1 ⟨rfl, rfl⟩
    rw [HC.out]
    go_wp2_with fail
    refine (crcText_any _ _ hl).mono ?_
    rintro e w2 ⟨rfl, hb2⟩
    go_wp2_with fail
    refine (joinTexts_any _ _ _ (by omega) (by rw [H4.out]; omega)).mono ?_
    rintro e w3 ⟨rfl, hb3⟩
    go_wp2
    go_ret
    exact ⟨rfl, hb2.trans (hb3.mono hb2.size)⟩

set_option maxHeartbeats 1000000 in
theorem specSeal_any (s : ByteArray) (w : World) (hs : s.size ≤ maxLen) :
    Calls Try.prog 13 #[.string s] w fun e w' => e = .returned (.string (sealOf s)) ∧ Below w.heap.size w w' := by
  have hs' := hs
  unfold maxLen at hs
  by_cases h : 7996 < s.size
  · rw [sealOf_long h]
    go_enter Try.func13, Try.ntmps13
    go_wp2
    go_ret
    exact ⟨rfl, Below.refl _ _⟩
  · rw [sealOf_short h]
    have hl := crcOf_lt (show 0 < 4294967296 by omega) s.data.toList
    have h4 := four_size (crcOf 0 s.data.toList)
    go_enter Try.func13, Try.ntmps13
    go_wp2_with fail
    refine (l01Crc_any 0 _ _ (by omega) hs').mono ?_
    rintro e w1 ⟨rfl, rfl⟩
    go_wp2_with fail
    refine (l01Four_any _ _ hl).mono ?_
    rintro e w2 ⟨rfl, hb2⟩
    go_wp2
    go_ret
    exact ⟨put_str (bs_app _ _), hb2⟩
end Go.Proofs.Ytldencefagnhfaa
