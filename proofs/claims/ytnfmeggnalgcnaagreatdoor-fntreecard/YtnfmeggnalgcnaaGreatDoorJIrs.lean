import Derived.Test.YtnfmeggnalgcnaaGreatDoorIso
import Derived.Test.YtnfmeggnalgcnaaGreatDoorJPMap
/- How many parts a tree has: impl.SizeOf. -/
namespace Go.Proofs.YtnfmeggnalgcnaaGreatDoor
open Go.RowKit

/-- a list of just one tree, in a new block -/
theorem one_kd {z : Bool} {w : World} {lo hi : Nat} {u : Value} {t : TreeD} (h : Kd z w lo hi u t.kids) (ht : TopOk t) (hhi : hi ≤ w.heap.size) :
    Kd z (w.alloc (.cells #[.int .i64 t.rule, .string t.tok, u] 29)) 0 (w.heap.size + 1) (.slice (some ⟨w.heap.size, 0, none⟩) 1 1) [t] := by
  have r := Row.made w 29 #[.int .i64 t.rule, .string t.tok, u]
  refine .mk (some ⟨w.heap.size, 0, none⟩) 1 [t] (fun _ => u) (Nat.le_refl _) (by unfold maxLen; omega) (fun i hi => ?_) (fun _ => ⟨w.heap.size, 0, rfl, Nat.zero_le _, by omega, fun _ => ⟨_, _, r⟩, fun i hi => ?_⟩) (fun i hi => ?_)
  · obtain rfl : i = 0 := by simpa using hi
    exact ht
  · obtain rfl : i = 0 := by simpa using hi
    exact ⟨by rw [r.cell]; rfl, by rw [r.cell]; rfl, by rw [r.cell]; rfl⟩
  · obtain rfl : i = 0 := by simpa using hi
    exact (h.under (B := w.heap.size) (al1 _ _) hhi).more (Nat.zero_le _) (by omega)

set_option maxRecDepth 100000 in
set_option maxHeartbeats 1000000 in
theorem sizeOfTree_any (t : TreeD) (u : Value) (lo hi : Nat) (w : World) (ht : TopOk t) (h : Kd true w lo hi u t.kids) (hhi : hi ≤ w.heap.size) (hn : sizeT t ≤ 2097152) :
    Calls Tryz.prog 39 #[trV t u, ownF] w fun e w' => e = .returned (.int .i64 (sizeT t : Int)) ∧ Below w.heap.size w w' := by
  have b1 := al1 w (.cells #[.int .i64 t.rule, .string t.tok, u] 29)
  have h1 := h.under b1 hhi
  have k := one_kd h1 ht (by simp; omega)
  have hs : sizeTs [t] = sizeT t := by simp [sizeTs]
  have hsz : (w.alloc (.cells #[.int .i64 t.rule, .string t.tok, u] 29)).heap.size = w.heap.size + 1 := by simp
  rw [hsz] at k
  have K := Lib.hid k
  have HS := Lib.hid hs
  clear hs
  have b2 := al2 w (.cells #[.int .i64 t.rule, .string t.tok, u] 29) (.cells #[.int .i64 t.rule, .string t.tok, u] 29)
  have HB := Lib.hid b2
  obtain ⟨A, c, U, rfl, -⟩ := h.parts
  unfold trV
  clear h h1 k b1 b2 hsz
  go_enter Tryz.func39, Tryz.ntmps39
  go_wp2_with fail
  refine (sizeOfAll_any (.slice (some ⟨w.heap.size + 1, 0, none⟩) 1 1) [t] 0 (w.heap.size + 1 + 1) _ K.out (by simp) (by rw [HS.out]; exact hn)).mono ?_
  rintro e w1 ⟨rfl, hb⟩
  rw [HS.out]
  go_wp2
  go_ret
  exact ⟨rfl, HB.out.trans (hb.mono (by simp; omega))⟩
set_option maxRecDepth 100000 in
set_option maxHeartbeats 1000000 in
theorem implSizeOf_any (t : TreeD) (u : Value) (lo hi : Nat) (w : World) (ht : TopOk t) (h : Kd true w lo hi u t.kids) (hhi : hi ≤ w.heap.size) (hn : sizeT t ≤ 2097152) :
    Calls Tryz.prog 16 #[trV t u] w fun e w' => e = .returned (.int .i64 (sizeT t : Int)) ∧ Below w.heap.size w w' := by
  have b1 := al1 w (.cells #[.int .i64 t.rule, .string t.tok, u] 29)
  have K := Lib.hid (h.under b1 hhi)
  obtain ⟨A, c, U, rfl, -⟩ := h.parts
  unfold trV
  clear h
  go_enter Tryz.func16, Tryz.ntmps16
  go_wp2_with fail
  refine (sizeOfTree_any t (.slice A t.kids.length c) lo hi _ ht K.out (by simp; omega) hn).mono ?_
  rintro e w1 ⟨rfl, hb⟩
  go_wp2
  go_ret
  exact ⟨rfl, b1.trans (hb.mono (by simp))⟩
end Go.Proofs.YtnfmeggnalgcnaaGreatDoor

/- The symbol of a whole tree: impl.rightSymbol, impl.TreeRight. -/
namespace Go.Proofs.YtnfmeggnalgcnaaGreatDoor
open Go.RowKit
theorem nodeSymbol_any (rs : List RuleD) (t : TreeD) : SyN rs t := tree_ind (nodeSymbol_of rs) t

set_option maxRecDepth 100000 in
set_option maxHeartbeats 4000000 in
theorem implRightSymbol_any (rs : List RuleD) (t : TreeD) (v u : Value) (lo hi lo2 hi2 : Nat) (w : World) (hr : Rules w lo2 hi2 v rs) (ht : TopOk t) (hk : Kd true w lo hi u t.kids) (hh : hi ≤ w.heap.size) (hh2 : hi2 ≤ w.heap.size) (hn : sizeT t ≤ 2097152) :
    Calls Tryz.prog 24 #[.agg #[v], trV t u] w fun e w' => e = .returned (.string (rightS rs t)) ∧ Below w.heap.size w w' := by
  have hb0 := al2 w (.cells #[v] 25) (.cells #[.int .i64 t.rule, .string t.tok, u] 29)
  have HB0 := Lib.hid hb0
  have RG := (Row.made w 25 #[v]).alloc (.cells #[.int .i64 t.rule, .string t.tok, u] 29)
  have RT := Row.made (w.alloc (.cells #[v] 25)) 29 #[.int .i64 t.rule, .string t.tok, u]
  have hsz : (w.alloc (.cells #[v] 25)).heap.size = w.heap.size + 1 := by simp
  rw [hsz] at RT
  have hsz2 : ((w.alloc (.cells #[v] 25)).alloc (.cells #[.int .i64 t.rule, .string t.tok, u] 29)).heap.size = w.heap.size + 1 + 1 := by simp
  have HRL := Lib.hid (hr.below hb0 hh2)
  have HKD := Lib.hid (hk.under hb0 hh)
  have HT := Lib.hid ht
  obtain ⟨Av, cv, rfl, -⟩ := hr
  obtain ⟨A, c, U, rfl, -⟩ := hk.parts
  clear hb0 hsz hk ht
  unfold trV
  cases hg : gramB rs
  · have HE : Hid (rightS rs t = ByteArray.empty) := Lib.hid (by unfold rightS; rw [if_neg (by rw [hg]; rintro ⟨h, _⟩; cases h)])
    have HG := Lib.hid hg
    clear hg
    go_enter Tryz.func24, Tryz.ntmps24
    go_wp2_with fail
    refine (implGramRight_any rs _ lo2 hi2 _ HRL.out (by simp; omega)).mono ?_
    rintro e w1 ⟨rfl, b1⟩
    rw [HG.out]
    go_wp2
    go_ret
    exact ⟨ret_str HE.out.symm, HB0.out.trans (b1.mono (by simp; omega))⟩
  · have HG := Lib.hid hg
    clear hg
    by_cases hbig : sizeT t ≤ 200
    · have HE : Hid (rightS rs t = symT rs t) := Lib.hid (by unfold rightS; rw [if_pos ⟨HG.out, hbig⟩])
      have nb : decide ((sizeT t : Int) > 200) = false := decide_eq_false (by omega)
      by_cases hlf : t.tok.size ≠ 0 ∧ t.kids.length = 0
      · have HLF := Lib.hid hlf
        have hmeth := methLeaf (.int .i64 t.rule) (.string t.tok)
        clear hlf
        go_enter Tryz.func24, Tryz.ntmps24
        go_wp2_with fail
        generalize (w.alloc (.cells #[.slice Av rs.length cv] 25)).alloc (.cells #[.int .i64 t.rule, .string t.tok, .slice A t.kids.length c] 29) = w0 at RG RT HB0 HRL HKD hsz2 ⊢
        refine (implGramRight_any rs _ lo2 hi2 w0 HRL.out (by omega)).mono ?_
        rintro e w1 ⟨rfl, b1⟩
        rw [HG.out]
        have z1 := b1.size
        have RT1 := RT.below b1 (by omega)
        have a0 := RT1.cell 0
        have a1 := RT1.cell 1
        have a2 := RT1.cell 2
        simp at a0 a1 a2
        go_wp2_with fail
        refine (implSizeOf_any t _ lo hi w1 HT.out (HKD.out.under b1 (by omega)) (by omega) hn).mono ?_
        rintro e w2 ⟨rfl, b2⟩
        have z2 := b2.size
        have b12 := b1.trans (b2.mono z1)
        have HBX := Lib.hid (HB0.out.trans (b12.mono (by omega)))
        have RT2 := RT.below b12 (by omega)
        have RG2 := RG.below b12 (by omega)
        have t0 := RT2.cell 0
        have t1 := RT2.cell 1
        have t2 := RT2.cell 2
        have t3 := RG2.cell 0
        simp at t0 t1 t2 t3
        have V5 : Kd true w2.drew lo hi (.slice A t.kids.length c) t.kids := (HKD.out.under b12 (by omega)).drewN 1
        have R5 : Rules w2.drew lo2 hi2 (.slice Av rs.length cv) rs := HRL.out.below (B := w0.heap.size) b12.drew (by omega)
        clear RT2 RG2 RT1 a0 a1 a2 b1 b2 b12
        go_wp2
        go_region_held3 (fun w' => (w'.cell? ⟨w.heap.size + 1, 0, none⟩ = some (.int .i64 t.rule) ∧ w'.cell? ⟨w.heap.size + 1, 1, none⟩ = some (.string t.tok) ∧ w'.cell? ⟨w.heap.size + 1, 2, none⟩ = some (.slice A t.kids.length c)) ∧ w'.cell? ⟨w.heap.size, 0, none⟩ = some (.slice Av rs.length cv))
          (first | go_keep | (refine ⟨⟨?_, ?_, ?_⟩, ?_⟩ <;> (rw [b6.cell (by simp <;> omega)]; assumption)) | (refine ⟨⟨?_, ?_, ?_⟩, ?_⟩ <;> (rw [b7.cell (by simp <;> omega), b6.cell (by simp <;> omega)]; assumption)))
          (first
            | (go_at_call 48; refine (partOf_below t A c w2.drew).mono ?_; rintro e w6 ⟨rfl, b6⟩; have z6 : w2.heap.size ≤ w6.heap.size := b6.size; rw [partV_leaf HLF.out])
            | (go_at_call 129; refine (leafSymbol_any rs t _ w6 HLF.out.1 HLF.out.2).mono ?_; rintro e w7 ⟨rfl, b7⟩))
        go_wp2
        go_ret
        exact ⟨ret_str HE.out.symm, HBX.out.trans (((Below.refl _ _).drew.trans (b6.mono (by simp <;> omega))).trans (b7.mono (by omega)))⟩
      · have HLF := Lib.hid hlf
        have hmeth := methNode (.int .i64 t.rule) (.string t.tok) (.slice A t.kids.length c)
        clear hlf
        go_enter Tryz.func24, Tryz.ntmps24
        go_wp2_with fail
        generalize (w.alloc (.cells #[.slice Av rs.length cv] 25)).alloc (.cells #[.int .i64 t.rule, .string t.tok, .slice A t.kids.length c] 29) = w0 at RG RT HB0 HRL HKD hsz2 ⊢
        refine (implGramRight_any rs _ lo2 hi2 w0 HRL.out (by omega)).mono ?_
        rintro e w1 ⟨rfl, b1⟩
        rw [HG.out]
        have z1 := b1.size
        have RT1 := RT.below b1 (by omega)
        have a0 := RT1.cell 0
        have a1 := RT1.cell 1
        have a2 := RT1.cell 2
        simp at a0 a1 a2
        go_wp2_with fail
        refine (implSizeOf_any t _ lo hi w1 HT.out (HKD.out.under b1 (by omega)) (by omega) hn).mono ?_
        rintro e w2 ⟨rfl, b2⟩
        have z2 := b2.size
        have b12 := b1.trans (b2.mono z1)
        have HBX := Lib.hid (HB0.out.trans (b12.mono (by omega)))
        have RT2 := RT.below b12 (by omega)
        have RG2 := RG.below b12 (by omega)
        have t0 := RT2.cell 0
        have t1 := RT2.cell 1
        have t2 := RT2.cell 2
        have t3 := RG2.cell 0
        simp at t0 t1 t2 t3
        have V5 : Kd true w2.drew lo hi (.slice A t.kids.length c) t.kids := (HKD.out.under b12 (by omega)).drewN 1
        have R5 : Rules w2.drew lo2 hi2 (.slice Av rs.length cv) rs := HRL.out.below (B := w0.heap.size) b12.drew (by omega)
        clear RT2 RG2 RT1 a0 a1 a2 b1 b2 b12
        go_wp2
        go_region_held3 (fun w' => (w'.cell? ⟨w.heap.size + 1, 0, none⟩ = some (.int .i64 t.rule) ∧ w'.cell? ⟨w.heap.size + 1, 1, none⟩ = some (.string t.tok) ∧ w'.cell? ⟨w.heap.size + 1, 2, none⟩ = some (.slice A t.kids.length c)) ∧ w'.cell? ⟨w.heap.size, 0, none⟩ = some (.slice Av rs.length cv))
          (first | go_keep | (refine ⟨⟨?_, ?_, ?_⟩, ?_⟩ <;> (rw [b6.cell (by simp <;> omega)]; assumption)) | (refine ⟨⟨?_, ?_, ?_⟩, ?_⟩ <;> (rw [b7.cell (by simp <;> omega), b6.cell (by simp <;> omega)]; assumption)))
          (first
            | (go_at_call 48; refine (partOf_below t A c w2.drew).mono ?_; rintro e w6 ⟨rfl, b6⟩; have z6 : w2.heap.size ≤ w6.heap.size := b6.size; rw [partV_node HLF.out])
            | (go_at_call 130; refine (nodeSymbol_any rs t true _ _ lo hi lo2 hi2 w6 HLF.out (V5.under b6 (by simp; omega)) (R5.below b6 (by simp; omega)) (by omega) (by omega)).mono ?_; rintro e w7 ⟨rfl, b7⟩))
        go_wp2
        go_ret
        exact ⟨ret_str HE.out.symm, HBX.out.trans (((Below.refl _ _).drew.trans (b6.mono (by simp <;> omega))).trans (b7.mono (by omega)))⟩
    · have HE : Hid (rightS rs t = ByteArray.empty) := Lib.hid (by unfold rightS; rw [if_neg (fun h => hbig h.2)])
      have nb : decide ((sizeT t : Int) > 200) = true := decide_eq_true (by omega)
      go_enter Tryz.func24, Tryz.ntmps24
      go_wp2_with fail
      generalize (w.alloc (.cells #[.slice Av rs.length cv] 25)).alloc (.cells #[.int .i64 t.rule, .string t.tok, .slice A t.kids.length c] 29) = w0 at RG RT HB0 HRL HKD hsz2 ⊢
      refine (implGramRight_any rs _ lo2 hi2 w0 HRL.out (by omega)).mono ?_
      rintro e w1 ⟨rfl, b1⟩
      rw [HG.out]
      have z1 := b1.size
      have RT1 := RT.below b1 (by omega)
      have a0 := RT1.cell 0
      have a1 := RT1.cell 1
      have a2 := RT1.cell 2
      simp at a0 a1 a2
      go_wp2_with fail
      refine (implSizeOf_any t _ lo hi w1 HT.out (HKD.out.under b1 (by omega)) (by omega) hn).mono ?_
      rintro e w2 ⟨rfl, b2⟩
      have z2 := b2.size
      have b12 := b1.trans (b2.mono z1)
      have HBX := Lib.hid (HB0.out.trans (b12.mono (by omega)))
      go_wp2
      go_ret
      exact ⟨ret_str HE.out.symm, HBX.out⟩

set_option maxRecDepth 100000 in
set_option maxHeartbeats 1000000 in
theorem implTreeRight_any (rs : List RuleD) (t : TreeD) (v u : Value) (lo hi lo2 hi2 : Nat) (w : World) (hr : Rules w lo2 hi2 v rs) (ht : TopOk t) (hk : Kd true w lo hi u t.kids) (hh : hi ≤ w.heap.size) (hh2 : hi2 ≤ w.heap.size) (hn : sizeT t ≤ 2097152) :
    Calls Tryz.prog 10 #[.agg #[v], trV t u] w fun e w' => e = .returned (.bool (rightB rs t)) ∧ Below w.heap.size w w' := by
  have hb0 := al2 w (.cells #[v] 25) (.cells #[.int .i64 t.rule, .string t.tok, u] 29)
  have HB0 := Lib.hid hb0
  have HRL := Lib.hid (hr.below hb0 hh2)
  have HKD := Lib.hid (hk.under hb0 hh)
  have HT := Lib.hid ht
  obtain ⟨Av, cv, rfl, -⟩ := hr
  obtain ⟨A, c, U, rfl, -⟩ := hk.parts
  clear hb0 hk ht
  unfold trV
  have HS : Hid (((rightS rs t).toList == []) = !rightB rs t) := Lib.hid (by rw [toks_empty]; unfold rightB; simp)
  go_enter Tryz.func10, Tryz.ntmps10
  go_wp2_with fail
  refine (implRightSymbol_any rs t _ _ lo hi lo2 hi2 _ HRL.out HT.out HKD.out (by simp; omega) (by simp; omega) hn).mono ?_
  rintro e w1 ⟨rfl, b1⟩
  have d1 := HS.out
  go_wp2
  go_ret
  exact ⟨ret_bool (by simp), HB0.out.trans (b1.mono (by simp; omega))⟩
end Go.Proofs.YtnfmeggnalgcnaaGreatDoor
