/- The walk of the law FnSeal. -/
import Derived.Test.YtldencefagnhfaaSealDraw
import Derived.Test.YtldencefagnhfaaFlip
import Derived.Test.YtldencefagnhfaaRowb
import Derived.Laws.StructEq
namespace Go.Proofs.Ytldencefagnhfaa
open Go.RowKit

/-- '[]byte(s)': a new row that holds the bytes of s and may be written -/
theorem bytes_of (w : World) (s : ByteArray) : ∃ w' cap, (convert 9 22 (.string s)).run Try.prog w = .ok (.slice (some ⟨w.heap.size, 0, none⟩) s.size cap) w' ∧ Below w.heap.size w w' ∧ w.heap.size < w'.heap.size ∧
    (∀ j (h : j < s.size), w'.cell? ⟨w.heap.size, j, none⟩ = some (bv s[j])) ∧ ∀ j, j < s.size → w'.frozen? ⟨w.heap.size, j, none⟩ = false := by
  refine ⟨_, _, run_bytes_of_string w 9 22 5 s Try.underlying9 Try.underlying22 Try.underlying5, ?_, ?_, ?_, ?_⟩
  · exact ((Below.refl _ _).drew).alloc (Nat.le_refl _) _
  · simp
  · intro j h
    have e := World.cell?_alloc_mark w.drew (bytesRow s (grownCap w s.size 0 5)) 5 ((bytesRow s (grownCap w s.size 0 5)).size, (bytesRow s (grownCap w s.size 0 5)).size + 1) j
    exact e.trans (bytesRow_at s _ j h)
  · intro j h
    have e := heap_alloc_new w.drew (.cells (bytesRow s (grownCap w s.size 0 5)) 5 ((bytesRow s (grownCap w s.size 0 5)).size, (bytesRow s (grownCap w s.size 0 5)).size + 1))
    have hsz : s.size ≤ (bytesRow s (grownCap w s.size 0 5)).size := by
      have h1 : s.data.size = s.size := rfl
      simp [bytesRow, h1]
    unfold World.frozen?
    rw [show (w.drew.alloc (.cells (bytesRow s (grownCap w s.size 0 5)) 5 ((bytesRow s (grownCap w s.size 0 5)).size, (bytesRow s (grownCap w s.size 0 5)).size + 1))).heap[w.heap.size]? = _ from e]
    simp
    omega
theorem turn_byte (x : UInt8) (q : Int) (h0 : 0 ≤ q) (h1 : q < 255) : ∃ y : UInt8, x ≠ y ∧ bits .xor .u8 (x.toNat : Int) (IntKind.u8.wrap (IntKind.i64.wrap (1 + q))) = (y.toNat : Int) := by
  have hx := x.toNat_lt
  rw [IntWalk.i64_in _ ⟨by omega, by omega⟩, IntWalk.u8_in _ ⟨by omega, by omega⟩, u8_xor _ _ (by omega) (by omega) (by omega) (by omega), Int.toNat_natCast]
  have hl : x.toNat ^^^ (1 + q).toNat < 256 := Nat.xor_lt_two_pow (n := 8) hx (by omega)
  refine ⟨UInt8.ofNat (x.toNat ^^^ (1 + q).toNat), fun e => ?_, ?_⟩
  · have h2 := congrArg UInt8.toNat e
    rw [UInt8.toNat_ofNat_of_lt' hl] at h2
    have h3 : x.toNat ^^^ 0 = x.toNat ^^^ (1 + q).toNat := by rw [Nat.xor_zero]; exact h2
    have := xor_cancel_left h3
    omega
  · rw [UInt8.toNat_ofNat_of_lt' hl]
theorem split_at (L : List UInt8) (k : Nat) (x : UInt8) (hk : k < L.length) (hx : L[k] = x) : L = L.take k ++ x :: L.drop (k + 1) := by
  rw [← hx, List.getElem_cons_drop, List.take_append_drop]
/-- 'string(b)' of the row in which one byte has been turned -/
theorem turned_conv {w6 w4 : World} {g k cap : Nat} {s : ByteArray} {y : UInt8} (hk : k < s.size) (hg : g < w4.heap.size) (hc : ∀ j (h : j < s.size), w4.cell? ⟨g, j, none⟩ = some (bv s[j]))
    (hb : Below w4.heap.size (w4.setCell ⟨g, k, none⟩ (bv y)).drew w6) :
    (convert 22 9 (.slice (some ⟨g, 0, none⟩) s.size cap)).run Try.prog w6 = .ok (.string (bs (s.data.toList.take k ++ y :: s.data.toList.drop (k + 1)))) w6 := by
  have hn : s.data.toList.length = s.size := rfl
  have hlen : (s.data.toList.take k ++ y :: s.data.toList.drop (k + 1)).length = s.size := by
    rw [List.length_append, List.length_cons, List.length_take, List.length_drop]; omega
  have := run_convert_bytes_back w6 22 9 5 ⟨g, 0, none⟩ cap (s.data.toList.take k ++ y :: s.data.toList.drop (k + 1)) Try.underlying22 Try.underlying5 Try.underlying9 (fun j hj => by
    have ha : (⟨g, 0, none⟩ : Addr).add j = ⟨g, j, none⟩ := by unfold Addr.add; split <;> simp_all
    rw [ha, hb.cell (p := ⟨g, j, none⟩) hg]
    have hj2 : j < s.size := by rw [hlen] at hj; exact hj
    show (w4.setCell ⟨g, k, none⟩ (bv y)).cell? ⟨g, j, none⟩ = _
    by_cases hjk : j = k
    · subst hjk
      rw [World.cell?_setCell_same _ _ _ (hc j hj2)]
      have : (s.data.toList.take j ++ y :: s.data.toList.drop (j + 1))[j]'(by rw [hlen]; exact hj2) = y := by
        rw [List.getElem_append_right (by rw [List.length_take]; omega)]
        simp [List.length_take, hn, Nat.min_eq_left (Nat.le_of_lt hj2)]
      rw [this]; rfl
    · rw [World.cell?_setCell_other _ _ _ _ (fun e => hjk (by injection e with _ e2 _; exact e2.symm)), hc j hj2]
      have hsj : s[j]'hj2 = s.data.toList[j]'(by rw [hn]; exact hj2) := rfl
      have : (s.data.toList.take k ++ y :: s.data.toList.drop (k + 1))[j]'(by rw [hlen]; exact hj2) = s[j]'hj2 := by
        rw [hsj]
        by_cases hlt : j < k
        · rw [List.getElem_append_left (by rw [List.length_take]; omega), List.getElem_take]
        · rw [List.getElem_append_right (by rw [List.length_take]; omega)]
          simp only [List.length_take, hn, Nat.min_eq_left (Nat.le_of_lt hk)]
          rw [List.getElem_cons, dif_neg (by omega), List.getElem_drop]
          congr 1; omega
      rw [this]; rfl)
  rw [hlen] at this
  exact this
theorem field_code (t : ByteArray) (a c : Int) (w : World) : (Instr.field 27 (.agg #[.string t, .int .i64 a, .int .i64 c]) 2).run Try.prog w = .ok (.int .i64 c) w := by kernel_rfl
theorem crc_goes_on (t u : ByteArray) (h : t.size + u.size ≤ 8000) : crcMoreOf (crcMoreOf 0 t) u = crcMoreOf 0 (t ++ u) := by
  have h1 : (t ++ u).size = t.size + u.size := ByteArray.size_append
  rw [crcMoreOf_short (s := t) (by omega), crcMoreOf_short (s := t ++ u) (by omega)]
  have hl := crcOf_lt (show 0 < 4294967296 by omega) t.data.toList
  unfold crcMoreOf
  rw [if_neg (by omega), Int.toNat_natCast, crcOf_append]
  have h2 : (t ++ u).data.toList = t.data.toList ++ u.data.toList := by simp [ByteArray.data_append]
  rw [h2]
theorem unseal_ok (t : ByteArray) (h : ¬ 7996 < t.size) (w : World) :
    Calls Try.prog 15 #[.string (sealOf t)] w fun e w' => e = .returned (.agg #[.string t, .int .i64 0, .int .i64 0]) ∧ Below w.heap.size w w' := by
  have hs : (sealOf t).size ≤ maxLen := by rw [sealOf_short h, bs_size, List.length_append]; unfold maxLen; simp [four]; omega
  have := implUnseal_any (sealOf t) w hs
  rw [unseal_seal t h] at this
  exact this
theorem unseal_bad (t : ByteArray) (h : ¬ 7996 < t.size) (k : Nat) (hk : k < (sealOf t).size) (y : UInt8) (hxy : (sealOf t)[k] ≠ y) (w : World) :
    Calls Try.prog 15 #[.string (bs ((sealOf t).data.toList.take k ++ y :: (sealOf t).data.toList.drop (k + 1)))] w fun e w' => e = .returned (.agg #[.string (bs []), .int .i64 0, .int .i64 5]) ∧ Below w.heap.size w w' := by
  have hL : (sealOf t).data.toList = t.data.toList ++ four (crcOf 0 t.data.toList) := by rw [sealOf_short h, bs_data]
  have e1 := split_at (sealOf t).data.toList k (sealOf t)[k] hk rfl
  have e2 := unseal_turned t h ((sealOf t).data.toList.take k) ((sealOf t).data.toList.drop (k + 1)) (sealOf t)[k] y hxy (by rw [← hL]; exact e1)
  have hl : (bs ((sealOf t).data.toList.take k ++ y :: (sealOf t).data.toList.drop (k + 1))).size ≤ maxLen := by
    have h3 := congrArg List.length e1
    have h4 : (sealOf t).data.toList.length ≤ 8000 := by rw [hL, List.length_append]; simp [four]; have : t.data.size = t.size := rfl; omega
    rw [bs_size, List.length_append, List.length_cons]
    rw [List.length_append, List.length_cons] at h3
    unfold maxLen; omega
  have := implUnseal_any _ w hl
  rw [e2] at this
  exact this
theorem seal_size (t : ByteArray) (h : ¬ 7996 < t.size) : (sealOf t).size = t.size + 4 := by
  rw [sealOf_short h, bs_size, List.length_append]; rfl
theorem seal_ne (t : ByteArray) (h : ¬ 7996 < t.size) : (!(sealOf t).toList.isEmpty) = true := by
  have h1 := seal_size t h
  rw [ByteArray.toList_eq]
  have h2 : (sealOf t).data.toList.length = (sealOf t).size := rfl
  cases hq : (sealOf t).data.toList with
  | nil => rw [hq] at h2; simp at h2; omega
  | cons x l => rfl
end Go.Proofs.Ytldencefagnhfaa
namespace Go.Proofs.Ytldencefagnhfaa.fnSeal
open Go.RowKit

set_option maxRecDepth 100000 in
set_option maxHeartbeats 1000000 in
theorem walk (a0 : Option Addr) (len0 cap0 : Nat) (z0 : List Int) (a1 : Option Addr) (len1 cap1 : Nat) (z1 : List Int) (w : World) (r0 : IsRow .u8 w a0 len0 cap0 z0) (r1 : IsRow .u8 w a1 len1 cap1 z1) :
    Calls Try.prog 3 #[.slice a0 len0 cap0, .slice a1 len1 cap1] w fun e w' => e = .returned (.bool true) ∧ Below w.heap.size w w' := by
  have B0 := Lib.hid r0.bytes
  have B1 := Lib.hid r1.bytes
  clear r0 r1
  by_cases h0 : (1048576 : Int) < (len0 : Int)
  · go_enter Try.func3, Try.ntmps3
    go_wp2
    go_ret
    exact ⟨rfl, Below.refl _ _⟩
  by_cases h1 : (1048576 : Int) < (len1 : Int)
  · go_enter Try.func3, Try.ntmps3
    go_wp2
    go_ret
    exact ⟨rfl, Below.refl _ _⟩
  have d0 : decide ((1048576 : Int) < (len0 : Int)) = false := decide_eq_false h0
  have d1 : decide ((1048576 : Int) < (len1 : Int)) = false := decide_eq_false h1
  go_enter Try.func3, Try.ntmps3
  go_wp2_with fail
  refine (drawSeal_any w a0 len0 cap0 B0.out (by omega)).mono ?_
  rintro e w1 ⟨t, rfl, ht, hb1⟩
  go_wp2_with fail
  refine (implSeal_any _ _ (by unfold maxLen; omega)).mono ?_
  rintro e w2 ⟨rfl, hb2'⟩
  have hb2 := hb1.trans (hb2'.mono hb1.size)
  clear hb2'
  go_wp2_with fail
  refine (specSeal_any _ _ (by unfold maxLen; omega)).mono ?_
  rintro e w3 ⟨rfl, hb3'⟩
  have hb3 := hb2.trans (hb3'.mono hb2.size)
  clear hb3' hb1 hb2
  by_cases hlong : 7996 < t.size
  · have HS := Lib.hid (sealOf_long hlong)
    rw [HS.out]
    have he : (!(bs []).toList.isEmpty) = false := by rw [ByteArray.toList_eq]; rfl
    go_wp2_with fail
    refine (drawCrcMore_any _ a1 len1 cap1 (B1.out.later hb3) (by omega)).mono ?_
    rintro e w8 ⟨c, u, rfl, hu, hb8'⟩
    have hb8 := hb3.trans (hb8'.mono hb3.size)
    clear hb8'
    by_cases hsum : (8000 : Int) < (t.size : Int) + (u.size : Int)
    · go_wp2
      go_ret
      exact ⟨rfl, hb8⟩
    · have hq := crc_goes_on t u (by omega)
      have HQ := Lib.hid hq
      clear hq
      go_wp2_with fail
      refine (implCrcMore_all _ _ _ (by unfold maxLen; omega)).mono ?_
      rintro e w9 ⟨rfl, rfl⟩
      go_wp2_with fail
      refine (specCrcMore_all _ _ _ (by unfold maxLen; omega)).mono ?_
      rintro e w9 ⟨rfl, rfl⟩
      go_wp2_with fail
      refine (implCrc_all _ _ (by unfold maxLen; omega)).mono ?_
      rintro e w9 ⟨rfl, rfl⟩
      go_wp2_with fail
      refine (implCrcMore_all _ _ _ (by unfold maxLen; omega)).mono ?_
      rintro e w9 ⟨rfl, rfl⟩
      go_wp2_with fail
      refine (implCrc_all _ _ (by rw [ByteArray.size_append]; unfold maxLen; omega)).mono ?_
      rintro e w9 ⟨rfl, rfl⟩
      rw [HQ.out]
      go_wp2
      go_ret
      exact ⟨rfl, hb8⟩
  · have HS := Lib.hid (unseal_seal t hlong)
    have hne : (!(sealOf t).toList.isEmpty) = true := seal_ne t hlong
    have hsz := seal_size t hlong
    obtain ⟨w4, cap4, hrun, hb4', hlt4, hc4, hf4⟩ := bytes_of w3 (sealOf t)
    have hb4 := hb3.trans (hb4'.mono hb3.size)
    have HC := Lib.hid hc4
    have HF := Lib.hid hf4
    clear hc4 hf4 hb4'
    go_wp2_with fail
    refine (lwAt_any _ a1 len1 cap1 0 _ (B1.out.later hb4) (by omega) (by omega) (by omega)).mono ?_
    rintro e w5 ⟨r, rfl, hr0, hr1, _, rfl⟩
    have hr2 := hr1 (by omega)
    obtain ⟨k, rfl⟩ := Int.eq_ofNat_of_zero_le hr0
    have hk : k < (sealOf t).size := by omega
    obtain ⟨x, hx⟩ : ∃ x : UInt8, x = (sealOf t)[k] := ⟨_, rfl⟩
    have hcx : w4.cell? ⟨w3.heap.size, k, none⟩ = some (.int .u8 (x.toNat : Int)) := by rw [hx]; exact HC.out k hk
    have hfx := HF.out k hk
    have HX := Lib.hid hx
    have hxl := x.toNat_lt
    have HZ := Lib.hid hsz
    clear hr1 hx hrun hsz
    go_wp2
    go_region_with (go_at_call 14; refine (lwAt_any w4.drew a1 len1 cap1 1 255 (B1.out.later hb4.drew) (by omega) (by omega) (by omega)).mono ?_; rintro e w6 ⟨q, rfl, hq0, hq1, _, rfl⟩; have hq2 := hq1 (by omega); clear hq1)
    all_goals
      obtain ⟨y, hxy, hbits⟩ := turn_byte x q hq0 hq2
      rw [hbits]
      obtain ⟨w5, hw5⟩ : ∃ w5, w5 = (w4.setCell ⟨w3.heap.size, k, none⟩ (.int .u8 (y.toNat : Int))).drew := ⟨_, rfl⟩
      rw [← hw5]
      have HW5 := Lib.hid hw5
      have HXY := Lib.hid hxy
      clear hw5 hbits hxy hcx hfx
      have HY : Hid ((sealOf t)[k] ≠ y) := Lib.hid (by rw [← HX.out]; exact HXY.out)
      have hb5 : Below w.heap.size w w5 := by rw [HW5.out]; exact (hb4.setCell hb3.size _).drew
      go_wp2_with fail
      refine (unseal_ok t hlong _).mono ?_
      rintro e w6 ⟨rfl, hb6'⟩
      have hs5 : w5.heap.size = w4.heap.size := by rw [HW5.out]; simp [World.setCell]
      have HU : Hid (∀ w, Calls Try.prog 15 #[.string (bs ((sealOf t).data.toList.take k ++ y :: (sealOf t).data.toList.drop (k + 1)))] w fun e w' => e = .returned (.agg #[.string (bs []), .int .i64 0, .int .i64 5]) ∧ Below w.heap.size w w') := Lib.hid (unseal_bad t hlong k hk y HY.out)
      have hbt : Below w4.heap.size (w4.setCell ⟨w3.heap.size, k, none⟩ (bv y)).drew w6 := by
        have h := hb6'
        rw [hs5, HW5.out] at h
        exact h
      have hcv := turned_conv (cap := cap4) hk hlt4 HC.out hbt
      rw [HZ.out] at hcv
      generalize bs ((sealOf t).data.toList.take k ++ y :: (sealOf t).data.toList.drop (k + 1)) = U at hcv HU
      have hb6 := hb5.trans (hb6'.mono hb5.size)
      clear hb6' hs5 hbt
      go_wp2_with fail
      refine (HU.out _).mono ?_
      rintro e w7 ⟨rfl, hb7'⟩
      have hb7 := hb6.trans (hb7'.mono hb6.size)
      have hfld : ∀ (w : World), (Instr.field 27 (.agg #[.string (bs []), .int .i64 0, .int .i64 5]) 2).run Try.prog w = .ok (.int .i64 5) w := fun _ => field_code _ _ _ _
      clear hb7' hcv
      go_wp2_with fail
      refine (drawCrcMore_any _ a1 len1 cap1 (B1.out.later hb7) (by omega)).mono ?_
      rintro e w8 ⟨c, u, rfl, hu, hb8'⟩
      have hb8 := hb7.trans (hb8'.mono hb7.size)
      clear hb8'
      by_cases hsum : (8000 : Int) < (t.size : Int) + (u.size : Int)
      · go_wp2
        go_ret
        exact ⟨rfl, hb8⟩
      · have hq := crc_goes_on t u (by omega)
        have HQ := Lib.hid hq
        clear hq
        go_wp2_with fail
        refine (implCrcMore_all _ _ _ (by unfold maxLen; omega)).mono ?_
        rintro e w9 ⟨rfl, rfl⟩
        go_wp2_with fail
        refine (specCrcMore_all _ _ _ (by unfold maxLen; omega)).mono ?_
        rintro e w9 ⟨rfl, rfl⟩
        go_wp2_with fail
        refine (implCrc_all _ _ (by unfold maxLen; omega)).mono ?_
        rintro e w9 ⟨rfl, rfl⟩
        go_wp2_with fail
        refine (implCrcMore_all _ _ _ (by unfold maxLen; omega)).mono ?_
        rintro e w9 ⟨rfl, rfl⟩
        go_wp2_with fail
        refine (implCrc_all _ _ (by rw [ByteArray.size_append]; unfold maxLen; omega)).mono ?_
        rintro e w9 ⟨rfl, rfl⟩
        rw [HQ.out]
        go_wp2
        go_ret
        exact ⟨rfl, hb8⟩
end Go.Proofs.Ytldencefagnhfaa.fnSeal
