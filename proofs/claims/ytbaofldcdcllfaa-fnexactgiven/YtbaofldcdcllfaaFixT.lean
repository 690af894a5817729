/- The walk of the model's l03Fix, and of its Nullable and Productive. -/
import Derived.Test.YtbaofldcdcllfaaJSortS
namespace Go.Proofs.Ytbaofldcdcllfaa
open Go.RowKit

theorem cell_one_new1 (w : World) (o : Obj) (x : Value) (t : TypeId) : ∀ j u, [x][j]? = some u → ((w.alloc o).alloc (.cells #[x] t)).cell? ((⟨w.heap.size + 1, 0, none⟩ : Addr).add j) = some u := by
  have e : (w.alloc o).heap.size = w.heap.size + 1 := by simp
  rw [← e]
  exact cell_one_new (w.alloc o) x t
/-- what stands in the list on the way: no two alike, and each comes to it -/
structure Way (tok : Bool) (rs : List RuleD) (ins : List ByteArray) : Prop where
  nodup : ins.Nodup
  com : ∀ s ∈ ins, Com tok rs s
theorem Way.len {tok : Bool} {rs : List RuleD} {ins : List ByteArray} (h : Way tok rs ins) (R : Rt rs) : ins.length ≤ 20 :=
  Nat.le_trans (h.nodup.length_le_of_subset fun s hs => (h.com s hs).in) R.hs_len
theorem Way.more {tok : Bool} {rs : List RuleD} {ins : List ByteArray} (h : Way tok rs ins) {i : Nat} (hi : i < rs.length) (h1 : inB ins rs[i].head = false) (h2 : allB rs[i].body ins tok = true) : Way tok rs (ins ++ [rs[i].head]) := by
  refine ⟨?_, fun s hs => ?_⟩
  · rw [List.nodup_append]
    refine ⟨h.nodup, by simp, fun a ha b hb e => ?_⟩
    rw [List.mem_singleton] at hb
    subst hb e
    rw [(inB_iff _ _).2 ha] at h1; cases h1
  · rw [List.mem_append, List.mem_singleton] at hs
    rcases hs with hs | rfl
    · exact h.com s hs
    · exact .mk i hi fun t ht hn => h.com t ((allB_iff _ _ _).1 h2 t ht hn)
theorem Way.full {tok : Bool} {rs : List RuleD} {ins : List ByteArray} (h : Way tok rs ins) (hc : ∀ i (hi : i < rs.length), allB rs[i].body ins tok = true → inB ins rs[i].head = true) (s : ByteArray) : inB ins s = true ↔ Com tok rs s := by
  rw [inB_iff]
  constructor
  · exact h.com s
  · intro hs
    induction hs with
    | mk i hi _ ih => exact (inB_iff _ _).1 (hc i hi ((allB_iff _ _ _).2 ih))
theorem Way.out {tok : Bool} {rs : List RuleD} {ins : List ByteArray} (h : Way tok rs ins) (hg : gramB rs = true) (hc : ∀ i (hi : i < rs.length), allB rs[i].body ins tok = true → inB ins rs[i].head = true) : ((hsOf rs).filter fun s => inB ins s) = comOf tok rs := by
  unfold comOf
  rw [show headsOf rs = hsOf rs from headsOf_t hg]
  apply List.filter_congr
  intro s _
  rw [Bool.eq_iff_iff, h.full hc]
  simp

set_option maxRecDepth 100000 in
set_option maxHeartbeats 4000000 in
theorem specFix_any (rs : List RuleD) (v : Value) (tok : Bool) (lo hi : Nat) (w : World) (h : Rules w lo hi v rs) (hh : hi ≤ w.heap.size) (hg : gramB rs = true) :
    Calls Try.prog 97 #[.agg #[v], .bool tok] w (MadeS w (comOf tok rs)) := by
  obtain ⟨i0, hi0, hz0, hz1, hz2⟩ := info_parts Try.infoStr
  have HV := Lib.hid h
  have RT := Lib.hid (Rt.of hg)
  have HG := Lib.hid hg
  have hl20 := RT.out.few
  obtain ⟨A, c, rfl, hlc, hc, hcell⟩ := h
  unfold maxLen at hc
  have hsz : ∀ ins, Way tok rs ins → ∀ s ∈ ins, s.size ≤ maxLen := fun ins hw s hs => by
    obtain ⟨i, hi, rfl⟩ := hs_mem (hw.com s hs).in
    obtain ⟨_, _, _, _, _, hcc⟩ := hcell (by omega)
    exact (hcc i hi).1
  have HZ := Lib.hid hsz
  have HC := Lib.hid hcell
  clear hcell hg hsz
  go_enter Try.func97, Try.ntmps97
  go_wp2
  go_loopw [5, 6, 7, 8] (fun x ag _ _ wr => ∃ (ins : List ByteArray) (a : Bool), ag = .bool a ∧ Sts wr (w.heap.size + 1) x ins ∧ Way tok rs ins ∧ (a = false → ∀ i (hi : i < rs.length), allB rs[i].body ins tok = true → inB ins rs[i].head = true) ∧ Row wr w.heap.size 41 #[.slice A rs.length c] ∧ Below w.heap.size w wr) (fun x ag _ _ _ => match x, ag with | .slice _ n _, .bool true => 22 - n | _, _ => 0)
  case atStart => exact ⟨[], true, rfl, by simpa using Sts.nil (w.alloc (.cells #[.slice A rs.length c] 41)) (base := w.heap.size + 1) (by simp), ⟨by simp, by simp⟩, (fun h => by cases h), (Row.made _ _ _).alloc _, al2 _ _ _⟩
  case round =>
    obtain ⟨ins0, a, rfl, hsts, hway, hcl, hrow, hbw⟩ := hrel
    have hsw := hbw.size
    have HWAY := Lib.hid hway
    have HCL := Lib.hid hcl
    have hlen := hway.len RT.out
    have HS := Lib.hid hsts
    obtain ⟨By, dy, rfl⟩ := hsts.shape
    rename World => wo
    clear hway hcl hsts
    cases a
    · have HO := Lib.hid (HWAY.out.out HG.out (HCL.out rfl))
      have hwl := hrow.lt
      have hc0 := hrow.cell 0
      simp at hc0
      have ST := HS.out.strs (HZ.out _ HWAY.out)
      have HR := Lib.hid hrow
      clear hrow
      go_wp2_with fail
      refine (specSort_any rs _ _ ins0 lo hi _ _ _ (HV.out.below hbw hh) (by omega) (by omega) ST (Nat.le_refl _)).mono ?_
      rintro e w2 ⟨u, g, rfl, ho, hgg, b2⟩
      rw [HO.out] at ho hgg
      go_wp2
      go_ret
      exact ⟨u, g, rfl, ho, fun hn => by have := hgg hn; omega, hbw.trans (b2.mono hsw)⟩
    · have HROW := Lib.hid hrow
      have HBW := Lib.hid hbw
      clear hrow hbw
      go_wp2
      go_loopw [5, 6, 7, 8] (fun x ag i _ wr => ∃ (j : Nat) (ins : List ByteArray) (a : Bool), j ≤ rs.length ∧ i = .int .i64 (j : Int) ∧ ag = .bool a ∧ Sts wr (w.heap.size + 1) x ins ∧ Way tok rs ins ∧ ins0.length ≤ ins.length ∧ (a = true → ins0.length < ins.length) ∧ (a = false → ∀ i (hi : i < rs.length), i < j → allB rs[i].body ins tok = true → inB ins rs[i].head = true) ∧ Row wr w.heap.size 41 #[.slice A rs.length c] ∧ Below w.heap.size w wr) (fun _ _ i _ _ => rs.length - (intOf i).toNat)
      case atStart => exact ⟨0, ins0, false, by omega, rfl, rfl, HS.out, HWAY.out, Nat.le_refl _, (fun h => by cases h), fun _ i _ hj => by omega, HROW.out, HBW.out⟩
      case round =>
        obtain ⟨j, ins, a, hj, rfl, rfl, hsts, hway, hle, hgt, hcl, hrow, hbw⟩ := hrel
        have hsw := hbw.size
        have hwl := hrow.lt
        have hlen' := hway.len RT.out
        have HW := Lib.hid hway
        have HCI := Lib.hid hcl
        have HGT := Lib.hid hgt
        have HSI := Lib.hid hsts
        have HR := Lib.hid hrow
        have hc0 := hrow.cell 0
        simp at hc0
        obtain ⟨Bz, dz, rfl⟩ := hsts.shape
        clear hway hcl hgt hsts hrow
        by_cases hlt : j < rs.length
        · obtain ⟨b, off, rfl, _, hbh, hcc⟩ := HC.out (by omega)
          obtain ⟨hhs, d0, u, d1, hst⟩ := hcc j hlt
          have d0' := (hbw.cell (p := ⟨b, off + j * 2, none⟩) (by show b < _; omega)).trans d0
          have d1' := (hbw.cell (p := ⟨b, off + j * 2 + 1, none⟩) (by show b < _; omega)).trans d1
          have hst' := hst.below hbw hh
          clear hcc d0 d1 hst
          have HST := Lib.hid hst'
          obtain ⟨A', c', rfl, -⟩ := hst'
          have ha := al1 wr (.cells #[.string rs[j].head, .slice A' rs[j].body.length c'] 101)
          have ST := (HSI.out.strs (HZ.out _ HW.out)).below ha (Nat.le_refl _)
          have R4 := HR.out.alloc (.cells #[.string rs[j].head, .slice A' rs[j].body.length c'] 101)
          have S4 : Sts (wr.alloc (.cells #[.string rs[j].head, .slice A' rs[j].body.length c'] 101)) _ _ _ := HSI.out.below ha
          have B4 := hbw.trans (ha.mono hsw)
          have HR4 := Lib.hid R4
          have HS4 := Lib.hid S4
          clear R4 S4
          cases hin : inB ins rs[j].head
          · have HI := Lib.hid hin
            cases hal : allB rs[j].body ins tok
            · have HAL := Lib.hid hal
              clear hal hin
              go_wp2_with fail
              refine (specIn_any _ ins rs[j].head _ _ _ ST).mono ?_
              rintro e w1 ⟨rfl, rfl⟩
              rw [HI.out]
              go_wp2_with fail
              refine (specAll_any _ _ rs[j].body ins tok lo hi _ _ _ (HST.out.below ha (by omega)) ST).mono ?_
              rintro e w1 ⟨rfl, rfl⟩
              rw [HAL.out]
              go_wp2
              go_roundw
              case rel => exact ⟨j + 1, ins, a, by omega, by go_num, rfl, HS4.out, HW.out, hle, HGT.out, fun ha' i hi hij hb => by
                by_cases e : i = j
                · subst e; rw [HAL.out] at hb; cases hb
                · exact HCI.out ha' i hi (by omega) hb, HR4.out, B4⟩
              case measure => simp [intOf]; omega
            · have HAL := Lib.hid hal
              have HWM := Lib.hid (HW.out.more hlt hin hal)
              clear hal hin
              go_wp2_with fail
              refine (specIn_any _ ins rs[j].head _ _ _ ST).mono ?_
              rintro e w1 ⟨rfl, rfl⟩
              rw [HI.out]
              go_wp2_with fail
              refine (specAll_any _ _ rs[j].body ins tok lo hi _ _ _ (HST.out.below ha (by omega)) ST).mono ?_
              rintro e w1 ⟨rfl, rfl⟩
              rw [HAL.out]
              clear ST
              go_wp2_with (at_builtin; refine wpList_append_own _ rfl _ _ 66 rfl (w.heap.size + 1) 9 i0 (.string ByteArray.empty) 1 16 Try.underlying66 hi0 hz0 hz1 hz2 rfl (by decide) _ _ _ rfl (World.ownsRow.alloc HS4.out _) ⟨wr.heap.size + 1, 0, none⟩ 1 1 [.string rs[j].head] rfl rfl (cell_one_new1 _ _ _ _) (one_str _) (by unfold maxLen; omega) (by omega) (by simp; omega) ?_)
              intro v1 w1 hown1 hg1 _
              have s1 : Sts w1 (w.heap.size + 1) v1 (ins ++ [rs[j].head]) := Sts.one _ hown1
              have q1 := Tx.row_grown (HR4.out.alloc _) (World.ownsRow.alloc HS4.out _) (by decide) hg1
              have hb1 : Below w.heap.size w w1 := Tx.below_grown (B4.trans ((al1 _ _).mono B4.size)) (World.ownsRow.alloc HS4.out _) hg1 (by simp; omega) (by omega)
              clear hown1 hg1
              go_wp2
              go_roundw
              case rel => exact ⟨j + 1, _, true, by omega, by go_num, rfl, s1, HWM.out, by simp; omega, fun _ => by simp; omega, (fun h => by cases h), q1, hb1⟩
              case measure => simp [intOf]; omega
          · have HI := Lib.hid hin
            clear hin
            go_wp2_with fail
            refine (specIn_any _ ins rs[j].head _ _ _ ST).mono ?_
            rintro e w1 ⟨rfl, rfl⟩
            rw [HI.out]
            go_wp2
            go_roundw
            case rel => exact ⟨j + 1, ins, a, by omega, by go_num, rfl, HS4.out, HW.out, hle, HGT.out, fun ha' i hi hij hb => by
              by_cases e : i = j
              · subst e; exact HI.out
              · exact HCI.out ha' i hi (by omega) hb, HR4.out, B4⟩
            case measure => simp [intOf]; omega
        · have HFC : Hid (a = false → ∀ i (hi : i < rs.length), allB rs[i].body ins tok = true → inB ins rs[i].head = true) := Lib.hid fun h i hi => HCI.out h i hi (by omega)
          go_wp2
          go_roundw
          case rel => exact ⟨ins, a, rfl, HSI.out, HW.out, HFC.out, HR.out, hbw⟩
          case measure =>
            cases a
            · simp; omega
            · have := HGT.out rfl
              simp; omega

end Go.Proofs.Ytbaofldcdcllfaa
