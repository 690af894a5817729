import Derived.Test.YtonfiahihmcmlaaJGrow
import Derived.Deep.AppendLies
import Derived.Test.YtonfiahihmcmlaaJTbl
import Derived.Test.YtonfiahihmcmlaaJWder
/- The walk of the model's l03Sort. -/
namespace Go.Proofs.Ytonfiahihmcmlaa
open Go.RowKit

def filtB (hs ins : List ByteArray) (k : Nat) : List ByteArray := (hs.take k).filter fun s => inB ins s
theorem filtB_t {hs ins : List ByteArray} {k : Nat} (h : k < hs.length) (hb : inB ins hs[k] = true) : filtB hs ins (k + 1) = filtB hs ins k ++ [hs[k]] := by
  unfold filtB; rw [List.take_succ_eq_append_getElem h, List.filter_append]; simp [hb]
theorem filtB_f {hs ins : List ByteArray} {k : Nat} (h : k < hs.length) (hb : inB ins hs[k] = false) : filtB hs ins (k + 1) = filtB hs ins k := by
  unfold filtB; rw [List.take_succ_eq_append_getElem h, List.filter_append]; simp [hb]
theorem filtB_mem {hs ins : List ByteArray} {k : Nat} {s : ByteArray} (h : s ∈ filtB hs ins k) : s ∈ hs := List.mem_of_mem_take (List.mem_filter.1 h).1
theorem filtB_len (hs ins : List ByteArray) (k : Nat) : (filtB hs ins k).length ≤ k := by
  unfold filtB
  refine Nat.le_trans (List.length_filter_le _ _) ?_
  rw [List.length_take]; omega

set_option maxRecDepth 100000 in
set_option maxHeartbeats 2000000 in
theorem specSort_any (rs : List RuleD) (v x : Value) (ins : List ByteArray) (lo hi lo' hi' : Nat) (w : World) (h : Rules w lo hi v rs) (hh : hi ≤ w.heap.size) (hl20 : rs.length ≤ 1000) (hx : Strs w lo' hi' x ins) (hh' : hi' ≤ w.heap.size) :
    Calls Try.prog 170 #[.agg #[v], x] w (MadeS w ((hsOf rs).filter fun s => inB ins s)) := by
  obtain ⟨i0, hi0, hz0, hz1, hz2⟩ := info_parts Try.infoStr
  have HV := Lib.hid h
  have HX := Lib.hid hx
  obtain ⟨A, c, rfl, -⟩ := h
  obtain ⟨X, xc, rfl, -⟩ := hx
  have hb := al2 w (.cells #[.slice A rs.length c] 25) (.cells #[] 9)
  have R0 := (Row.made w 25 #[.slice A rs.length c]).alloc (.cells #[] 9)
  have c0 := R0.cell 0
  simp at c0
  have hln := headsTo_len rs rs.length
  clear R0
  go_enter Try.func170, Try.ntmps170
  go_wp2_with fail
  refine (specHeadsOf_any rs _ lo hi _ (HV.out.below hb hh) (by simp; omega) (by omega)).mono ?_
  rintro e w1 ⟨u, g, rfl, ho, hg, b1⟩
  change OwnS w1 g u (hsOf rs) at ho
  change (hsOf rs).length ≤ rs.length at hln
  have hg1 : hsOf rs ≠ [] → w.heap.size + 2 ≤ g ∧ g < w1.heap.size := fun hn => by have := hg hn; simpa using this
  have ST := ho.strs hg1
  have hs1 := b1.size
  have N0 : Sts w1 (w.heap.size + 1) (.slice (some ⟨w.heap.size + 1, 0, none⟩) 0 0) [] := by
    have h0 : Sts _ _ (.slice (some ⟨(w.alloc (.cells #[.slice A rs.length c] 25)).heap.size, 0, none⟩) 0 0) [] := Sts.nil (w.alloc (.cells #[.slice A rs.length c] 25)) (base := w.heap.size + 1) (by simp)
    have e : (w.alloc (.cells #[.slice A rs.length c] 25)).heap.size = w.heap.size + 1 := by simp
    rw [e] at h0
    exact h0.below b1
  have hb1 := hb.trans (b1.mono (by simp; omega))
  have hsz : w.heap.size + 2 ≤ w1.heap.size := by simpa using hs1
  have HST := Lib.hid ST
  have HXS := Lib.hid ((HX.out.below hb1 hh'))
  obtain ⟨Ah, ch, rfl, hlc, hc, hss, hcell⟩ := ST
  unfold maxLen at hc
  have HC := Lib.hid hcell
  have HZ : Hid (∀ k, ∀ s ∈ filtB (hsOf rs) ins k, s.size ≤ maxLen) := Lib.hid fun k s hs => hss s (filtB_mem hs)
  have HB1 := Lib.hid hb1
  clear hcell hss b1 hb ho hg hg1 hb1
  go_wp2
  go_loopw [5, 7] (fun y i wr => ∃ k : Nat, k ≤ (hsOf rs).length ∧ i = .int .i64 k ∧ Sts wr (w.heap.size + 1) y (filtB (hsOf rs) ins k) ∧ (∀ b, y.ownBlock = some b → b = w.heap.size + 1 ∨ w1.heap.size ≤ b) ∧ Keeps (w.heap.size + 2) w1.heap.size w1 wr ∧ Below w.heap.size w wr ∧ w1.heap.size ≤ wr.heap.size) (fun _ i _ => (hsOf rs).length - (intOf i).toNat)
  case atStart => exact ⟨0, by omega, rfl, N0, fun b hb => by simp [Value.ownBlock] at hb; omega, Keeps.refl _ _ _, HB1.out, Nat.le_refl _⟩
  case round =>
    obtain ⟨k, hk, rfl, hsts, how, hkp, hbw, hsw⟩ := hrel
    have hfl := filtB_len (hsOf rs) ins k
    by_cases hlt : k < (hsOf rs).length
    · obtain ⟨b, off, rfl, hbl, hbh, hcc⟩ := HC.out (by omega)
      have hck := (hkp.cell (p := ⟨b, off + k, none⟩) hbl hbh).trans (hcc k hlt)
      have HXr := Lib.hid (HX.out.below hbw hh')
      clear hcc
      cases hin : inB ins (hsOf rs)[k]
      · have HI := Lib.hid hin
        have HF := Lib.hid (filtB_f hlt hin)
        clear hin
        go_wp2_with fail
        refine (specIn_any _ ins (hsOf rs)[k] lo' hi' _ HXr.out).mono ?_
        rintro e w2 ⟨rfl, rfl⟩
        rw [HI.out]
        go_wp2
        go_roundw
        case rel => exact ⟨k + 1, by omega, by go_num, by rw [HF.out]; exact hsts, how, hkp, hbw, hsw⟩
        case measure => simp [intOf]; omega
      · have HI := Lib.hid hin
        have HF := Lib.hid (filtB_t hlt hin)
        clear hin
        have HS := Lib.hid hsts
        have HOW := Lib.hid how
        have HKP := Lib.hid hkp
        obtain ⟨By, dy, rfl⟩ := hsts.shape
        clear hsts how hkp
        go_wp2_with fail
        refine (specIn_any _ ins (hsOf rs)[k] lo' hi' _ HXr.out).mono ?_
        rintro e w2 ⟨rfl, rfl⟩
        rw [HI.out]
        go_wp2_with (at_builtin; refine wpList_append_lies _ rfl _ _ 34 rfl (w.heap.size + 1) 9 i0 (.string ByteArray.empty) 1 16 Try.underlying34 hi0 hz0 hz1 hz2 rfl (by decide) _ _ _ rfl (World.ownsRow.alloc HS.out _) ⟨wr.heap.size, 0, none⟩ 1 1 [.string (hsOf rs)[k]] rfl rfl (cell_one_new _ _ _) (one_str _) (by omega) (by unfold maxLen; omega) (by omega) (by simp; omega) (wr.heap.size + 1) (by simp) ?_)
        intro gg cap w3 hown3 hg3 hat3 hlt3
        have s3 : Sts w3 (w.heap.size + 1) (.slice (some ⟨gg, 0, none⟩) ((filtB (hsOf rs) ins k).length + 1) cap) (filtB (hsOf rs) ins (k + 1)) := by
          rw [HF.out]
          exact Sts.one _ hown3
        have B3 : Below w.heap.size w w3 := Tx.below_grown (hbw.trans ((al1 wr _).mono hbw.size)) (World.ownsRow.alloc HS.out _) hg3 (by simp; omega) (by omega)
        have z3 : w1.heap.size ≤ w3.heap.size := by have := hg3.size; simp at this; omega
        have o3 : ∀ b, (Value.slice (some ⟨gg, 0, none⟩) ((filtB (hsOf rs) ins k).length + 1) cap).ownBlock = some b → b = w.heap.size + 1 ∨ w1.heap.size ≤ b := fun b hb => by
          have : gg = b := by simpa [Value.ownBlock] using hb
          subst this
          rcases hat3 with hat | hat
          · exact HOW.out _ hat
          · omega
        have K3 : Keeps (w.heap.size + 2) w1.heap.size w1 w3 := HKP.out.trans fun j hj1 hj2 => (hg3.block j (by simp; omega) fun e => by
          have := HOW.out j e.symm
          omega).trans (Below.heap_alloc _ _ _ (by omega))
        clear hown3 hg3 hat3 hlt3
        go_wp2
        go_roundw
        case rel => exact ⟨k + 1, by omega, by go_num, s3, o3, K3, B3, z3⟩
        case measure => simp [intOf]; omega
    · have hks : k = (hsOf rs).length := by omega
      subst hks
      obtain ⟨g, ho, hg⟩ := hsts.own (HZ.out _)
      have HE : Hid (filtB (hsOf rs) ins (hsOf rs).length = (hsOf rs).filter fun s => inB ins s) := Lib.hid (by unfold filtB; rw [List.take_length])
      rw [HE.out] at ho hg
      clear hsts
      go_wp2
      go_ret
      exact ⟨_, g, rfl, ho, fun hn => by have := hg hn; omega, hbw⟩
end Go.Proofs.Ytonfiahihmcmlaa

/- The walk of the model's l03Fix, and of its Nullable and Productive. -/
namespace Go.Proofs.Ytonfiahihmcmlaa
open Go.RowKit

theorem cell_one_new1 (w : World) (o : Obj) (x : Value) (t : TypeId) : ∀ j u, [x][j]? = some u → ((w.alloc o).alloc (.cells #[x] t)).cell? ((⟨w.heap.size + 1, 0, none⟩ : Addr).add j) = some u := by
  have e : (w.alloc o).heap.size = w.heap.size + 1 := by simp
  rw [← e]
  exact cell_one_new (w.alloc o) x t
/-- what stands in the list on the way: no two alike, and each comes to it -/
structure Way (tok : Bool) (rs : List RuleD) (ins : List ByteArray) : Prop where
  nodup : ins.Nodup
  com : ∀ s ∈ ins, Com tok rs s
theorem Way.len {tok : Bool} {rs : List RuleD} {ins : List ByteArray} (h : Way tok rs ins) (R : Rt rs) : ins.length ≤ 20 :=
  Nat.le_trans (h.nodup.length_le_of_subset fun s hs => (h.com s hs).in) R.hs_len
theorem Way.more {tok : Bool} {rs : List RuleD} {ins : List ByteArray} (h : Way tok rs ins) {i : Nat} (hi : i < rs.length) (h1 : inB ins rs[i].head = false) (h2 : allB rs[i].body ins tok = true) : Way tok rs (ins ++ [rs[i].head]) := by
  refine ⟨?_, fun s hs => ?_⟩
  · rw [List.nodup_append]
    refine ⟨h.nodup, by simp, fun a ha b hb e => ?_⟩
    rw [List.mem_singleton] at hb
    subst hb e
    rw [(inB_iff _ _).2 ha] at h1; cases h1
  · rw [List.mem_append, List.mem_singleton] at hs
    rcases hs with hs | rfl
    · exact h.com s hs
    · exact .mk i hi fun t ht hn => h.com t ((allB_iff _ _ _).1 h2 t ht hn)
theorem Way.full {tok : Bool} {rs : List RuleD} {ins : List ByteArray} (h : Way tok rs ins) (hc : ∀ i (hi : i < rs.length), allB rs[i].body ins tok = true → inB ins rs[i].head = true) (s : ByteArray) : inB ins s = true ↔ Com tok rs s := by
  rw [inB_iff]
  constructor
  · exact h.com s
  · intro hs
    induction hs with
    | mk i hi _ ih => exact (inB_iff _ _).1 (hc i hi ((allB_iff _ _ _).2 ih))
theorem Way.out {tok : Bool} {rs : List RuleD} {ins : List ByteArray} (h : Way tok rs ins) (hg : gramB rs = true) (hc : ∀ i (hi : i < rs.length), allB rs[i].body ins tok = true → inB ins rs[i].head = true) : ((hsOf rs).filter fun s => inB ins s) = comOf tok rs := by
  unfold comOf
  rw [show headsOf rs = hsOf rs from headsOf_t hg]
  apply List.filter_congr
  intro s _
  rw [Bool.eq_iff_iff, h.full hc]
  simp

set_option maxRecDepth 100000 in
set_option maxHeartbeats 4000000 in
theorem specFix_any (rs : List RuleD) (v : Value) (tok : Bool) (lo hi : Nat) (w : World) (h : Rules w lo hi v rs) (hh : hi ≤ w.heap.size) (hg : gramB rs = true) :
    Calls Try.prog 137 #[.agg #[v], .bool tok] w (MadeS w (comOf tok rs)) := by
  obtain ⟨i0, hi0, hz0, hz1, hz2⟩ := info_parts Try.infoStr
  have HV := Lib.hid h
  have RT := Lib.hid (Rt.of hg)
  have HG := Lib.hid hg
  have hl20 := RT.out.few
  obtain ⟨A, c, rfl, hlc, hc, hcell⟩ := h
  unfold maxLen at hc
  have hsz : ∀ ins, Way tok rs ins → ∀ s ∈ ins, s.size ≤ maxLen := fun ins hw s hs => by
    obtain ⟨i, hi, rfl⟩ := hs_mem (hw.com s hs).in
    obtain ⟨_, _, _, _, _, hcc⟩ := hcell (by omega)
    exact (hcc i hi).1
  have HZ := Lib.hid hsz
  have HC := Lib.hid hcell
  clear hcell hg hsz
  go_enter Try.func137, Try.ntmps137
  go_wp2
  go_loopw [5, 6, 7, 8] (fun x ag _ _ wr => ∃ (ins : List ByteArray) (a : Bool), ag = .bool a ∧ Sts wr (w.heap.size + 1) x ins ∧ Way tok rs ins ∧ (a = false → ∀ i (hi : i < rs.length), allB rs[i].body ins tok = true → inB ins rs[i].head = true) ∧ Row wr w.heap.size 25 #[.slice A rs.length c] ∧ Below w.heap.size w wr) (fun x ag _ _ _ => match x, ag with | .slice _ n _, .bool true => 22 - n | _, _ => 0)
  case atStart => exact ⟨[], true, rfl, by simpa using Sts.nil (w.alloc (.cells #[.slice A rs.length c] 25)) (base := w.heap.size + 1) (by simp), ⟨by simp, by simp⟩, (fun h => by cases h), (Row.made _ _ _).alloc _, al2 _ _ _⟩
  case round =>
    obtain ⟨ins0, a, rfl, hsts, hway, hcl, hrow, hbw⟩ := hrel
    have hsw := hbw.size
    have HWAY := Lib.hid hway
    have HCL := Lib.hid hcl
    have hlen := hway.len RT.out
    have HS := Lib.hid hsts
    obtain ⟨By, dy, rfl⟩ := hsts.shape
    rename World => wo
    clear hway hcl hsts
    cases a
    · have HO := Lib.hid (HWAY.out.out HG.out (HCL.out rfl))
      have hwl := hrow.lt
      have hc0 := hrow.cell 0
      simp at hc0
      have ST := HS.out.strs (HZ.out _ HWAY.out)
      have HR := Lib.hid hrow
      clear hrow
      go_wp2_with fail
      refine (specSort_any rs _ _ ins0 lo hi _ _ _ (HV.out.below hbw hh) (by omega) (by omega) ST (Nat.le_refl _)).mono ?_
      rintro e w2 ⟨u, g, rfl, ho, hgg, b2⟩
      rw [HO.out] at ho hgg
      go_wp2
      go_ret
      exact ⟨u, g, rfl, ho, fun hn => by have := hgg hn; omega, hbw.trans (b2.mono hsw)⟩
    · have HROW := Lib.hid hrow
      have HBW := Lib.hid hbw
      clear hrow hbw
      go_wp2
      go_loopw [5, 6, 7, 8] (fun x ag i _ wr => ∃ (j : Nat) (ins : List ByteArray) (a : Bool), j ≤ rs.length ∧ i = .int .i64 (j : Int) ∧ ag = .bool a ∧ Sts wr (w.heap.size + 1) x ins ∧ Way tok rs ins ∧ ins0.length ≤ ins.length ∧ (a = true → ins0.length < ins.length) ∧ (a = false → ∀ i (hi : i < rs.length), i < j → allB rs[i].body ins tok = true → inB ins rs[i].head = true) ∧ Row wr w.heap.size 25 #[.slice A rs.length c] ∧ Below w.heap.size w wr) (fun _ _ i _ _ => rs.length - (intOf i).toNat)
      case atStart => exact ⟨0, ins0, false, by omega, rfl, rfl, HS.out, HWAY.out, Nat.le_refl _, (fun h => by cases h), fun _ i _ hj => by omega, HROW.out, HBW.out⟩
      case round =>
        obtain ⟨j, ins, a, hj, rfl, rfl, hsts, hway, hle, hgt, hcl, hrow, hbw⟩ := hrel
        have hsw := hbw.size
        have hwl := hrow.lt
        have hlen' := hway.len RT.out
        have HW := Lib.hid hway
        have HCI := Lib.hid hcl
        have HGT := Lib.hid hgt
        have HSI := Lib.hid hsts
        have HR := Lib.hid hrow
        have hc0 := hrow.cell 0
        simp at hc0
        obtain ⟨Bz, dz, rfl⟩ := hsts.shape
        clear hway hcl hgt hsts hrow
        by_cases hlt : j < rs.length
        · obtain ⟨b, off, rfl, _, hbh, hcc⟩ := HC.out (by omega)
          obtain ⟨hhs, d0, u, d1, hst⟩ := hcc j hlt
          have d0' := (hbw.cell (p := ⟨b, off + j * 2, none⟩) (by show b < _; omega)).trans d0
          have d1' := (hbw.cell (p := ⟨b, off + j * 2 + 1, none⟩) (by show b < _; omega)).trans d1
          have hst' := hst.below hbw hh
          clear hcc d0 d1 hst
          have HST := Lib.hid hst'
          obtain ⟨A', c', rfl, -⟩ := hst'
          have ha := al1 wr (.cells #[.string rs[j].head, .slice A' rs[j].body.length c'] 49)
          have ST := (HSI.out.strs (HZ.out _ HW.out)).below ha (Nat.le_refl _)
          have R4 := HR.out.alloc (.cells #[.string rs[j].head, .slice A' rs[j].body.length c'] 49)
          have S4 : Sts (wr.alloc (.cells #[.string rs[j].head, .slice A' rs[j].body.length c'] 49)) _ _ _ := HSI.out.below ha
          have B4 := hbw.trans (ha.mono hsw)
          have HR4 := Lib.hid R4
          have HS4 := Lib.hid S4
          clear R4 S4
          cases hin : inB ins rs[j].head
          · have HI := Lib.hid hin
            cases hal : allB rs[j].body ins tok
            · have HAL := Lib.hid hal
              clear hal hin
              go_wp2_with fail
              refine (specIn_any _ ins rs[j].head _ _ _ ST).mono ?_
              rintro e w1 ⟨rfl, rfl⟩
              rw [HI.out]
              go_wp2_with fail
              refine (specAll_any _ _ rs[j].body ins tok lo hi _ _ _ (HST.out.below ha (by omega)) ST).mono ?_
              rintro e w1 ⟨rfl, rfl⟩
              rw [HAL.out]
              go_wp2
              go_roundw
              case rel => exact ⟨j + 1, ins, a, by omega, by go_num, rfl, HS4.out, HW.out, hle, HGT.out, fun ha' i hi hij hb => by
                by_cases e : i = j
                · subst e; rw [HAL.out] at hb; cases hb
                · exact HCI.out ha' i hi (by omega) hb, HR4.out, B4⟩
              case measure => simp [intOf]; omega
            · have HAL := Lib.hid hal
              have HWM := Lib.hid (HW.out.more hlt hin hal)
              clear hal hin
              go_wp2_with fail
              refine (specIn_any _ ins rs[j].head _ _ _ ST).mono ?_
              rintro e w1 ⟨rfl, rfl⟩
              rw [HI.out]
              go_wp2_with fail
              refine (specAll_any _ _ rs[j].body ins tok lo hi _ _ _ (HST.out.below ha (by omega)) ST).mono ?_
              rintro e w1 ⟨rfl, rfl⟩
              rw [HAL.out]
              clear ST
              go_wp2_with (at_builtin; refine wpList_append_own _ rfl _ _ 34 rfl (w.heap.size + 1) 9 i0 (.string ByteArray.empty) 1 16 Try.underlying34 hi0 hz0 hz1 hz2 rfl (by decide) _ _ _ rfl (World.ownsRow.alloc HS4.out _) ⟨wr.heap.size + 1, 0, none⟩ 1 1 [.string rs[j].head] rfl rfl (cell_one_new1 _ _ _ _) (one_str _) (by unfold maxLen; omega) (by omega) (by simp; omega) ?_)
              intro v1 w1 hown1 hg1 _
              have s1 : Sts w1 (w.heap.size + 1) v1 (ins ++ [rs[j].head]) := Sts.one _ hown1
              have q1 := Tx.row_grown (HR4.out.alloc _) (World.ownsRow.alloc HS4.out _) (by decide) hg1
              have hb1 : Below w.heap.size w w1 := Tx.below_grown (B4.trans ((al1 _ _).mono B4.size)) (World.ownsRow.alloc HS4.out _) hg1 (by simp; omega) (by omega)
              clear hown1 hg1
              go_wp2
              go_roundw
              case rel => exact ⟨j + 1, _, true, by omega, by go_num, rfl, s1, HWM.out, by simp; omega, fun _ => by simp; omega, (fun h => by cases h), q1, hb1⟩
              case measure => simp [intOf]; omega
          · have HI := Lib.hid hin
            clear hin
            go_wp2_with fail
            refine (specIn_any _ ins rs[j].head _ _ _ ST).mono ?_
            rintro e w1 ⟨rfl, rfl⟩
            rw [HI.out]
            go_wp2
            go_roundw
            case rel => exact ⟨j + 1, ins, a, by omega, by go_num, rfl, HS4.out, HW.out, hle, HGT.out, fun ha' i hi hij hb => by
              by_cases e : i = j
              · subst e; exact HI.out
              · exact HCI.out ha' i hi (by omega) hb, HR4.out, B4⟩
            case measure => simp [intOf]; omega
        · have HFC : Hid (a = false → ∀ i (hi : i < rs.length), allB rs[i].body ins tok = true → inB ins rs[i].head = true) := Lib.hid fun h i hi => HCI.out h i hi (by omega)
          go_wp2
          go_roundw
          case rel => exact ⟨ins, a, rfl, HSI.out, HW.out, HFC.out, HR.out, hbw⟩
          case measure =>
            cases a
            · simp; omega
            · have := HGT.out rfl
              simp; omega

end Go.Proofs.Ytonfiahihmcmlaa

/- What begins with the rest of a text, as the model asks for it, as data. No program stands in this text. -/
namespace Go.Proofs.Ytonfiahihmcmlaa
open Go.RowKit

section
variable {R : RuleD → Prop} {t : List ByteArray}
theorem Beg.le {m : Nat} {s : ByteArray} {i : Nat} (h : Beg R t m s i) : i ≤ m := by
  induction h with
  | stop j _ h => exact h.le
  | go j _ h _ _ ih => have := h.le; omega
theorem Beg.cut {m : Nat} {s : ByteArray} {i : Nat} (h : Beg R t m s i) : Beg R (t.take m) m s i := by
  induction h with
  | stop j hr h => exact .stop j hr (h.cut (Nat.le_refl _))
  | go j hr h hj h' ih => exact .go j hr (h.cut h'.le) hj ih
theorem Beg.uncut {n m : Nat} {s : ByteArray} {i : Nat} (h : Beg R (t.take n) m s i) : Beg R t m s i := by
  induction h with
  | stop j hr h => exact .stop j hr h.uncut
  | go j hr h hj _ ih => exact .go j hr h.uncut hj ih
end
theorem good_all {rs : List RuleD} (hg : gramB rs = true) {q : Nat} (hq : q < rs.length) : allB rs[q].body (comOf true rs) true = true ↔ rs[q] ∈ frs rs := by
  rw [frs_mem, allB_iff]
  unfold comOf
  rw [show headsOf rs = hsOf rs from headsOf_t hg]
  constructor
  · intro h
    refine ⟨List.getElem_mem hq, fun s hs => ?_⟩
    cases ht : tokB s
    · have := h s hs (by rw [ht]; rfl)
      rw [List.mem_filter] at this
      exact .inr (by simpa using this.2)
    · exact .inl rfl
  · rintro ⟨_, h⟩ s hs ht
    rcases h s hs with h1 | h1
    · rw [h1] at ht; cases ht
    · rw [List.mem_filter]
      exact ⟨h1.in, by simpa using h1⟩
/-- what l04Body asks -/
def bodyP (T : TabF) (rs : List RuleD) (u : List ByteArray) (Bg : Nat → Bool) (body : List ByteArray) (f : Nat) : Prop :=
  ∃ j, j ≤ body.length ∧ (endP T (hsOf rs) u (body.take j) (· = f) u.length ∨ ∃ k, f ≤ k ∧ k ≤ u.length ∧ ∃ h : j < body.length, endP T (hsOf rs) u (body.take j) (· = f) k ∧ body[j] ∈ hsOf rs ∧ Bg (13 * hIx (hsOf rs) body[j] + k) = true)
def BSound (rs : List RuleD) (u : List ByteArray) (Bg : Nat → Bool) : Prop := ∀ i (h : i < (hsOf rs).length) f, f ≤ u.length → Bg (13 * i + f) = true → Beg (· ∈ frs rs) u u.length (hsOf rs)[i] f
def BDid (rs : List RuleD) (u : List ByteArray) (T : TabF) (Bg : Nat → Bool) (i f : Nat) : Prop := ∀ a (h : a < rs.length) x, x ≤ u.length → (a < i ∨ (a = i ∧ x < f)) → rs[a] ∈ frs rs → bodyP T rs u Bg rs[a].body x → Bg (13 * hIx (hsOf rs) rs[a].head + x) = true
section
variable {rs : List RuleD} {u : List ByteArray} {T : TabF} {Bg : Nat → Bool}
theorem BSound.body (B : BSound rs u Bg) (S : TSound rs u T) (ht : ∀ s ∈ u, tokB s = true) {q f : Nat} (hq : q < rs.length) (hg : rs[q] ∈ frs rs) (h : bodyP T rs u Bg rs[q].body f) : Beg (· ∈ frs rs) u u.length rs[q].head f := by
  obtain ⟨j, hj, h1 | ⟨k, hk, hk2, hl, h1, hm, hb⟩⟩ := h
  · exact .stop j hg ((der_frs ht).2 (S.ends _ _ h1))
  · have := B _ (hIx_lt hm) k hk2 hb
    rw [hIx_at hm] at this
    exact .go j hg ((der_frs ht).2 (S.ends _ _ h1)) (List.getElem?_eq_getElem hl) this
theorem BDid.walk (D : BDid rs u T Bg rs.length 0) (S : TSound rs u T) (C : TClosed rs u T) (R : Rt rs) (ht : ∀ s ∈ u, tokB s = true) {s : ByteArray} {f : Nat} (h : Beg (· ∈ frs rs) u u.length s f) : s ∈ hsOf rs ∧ Bg (13 * hIx (hsOf rs) s + f) = true := by
  have hh := tok_no_head R ht
  induction h with
  | @stop r f j hr h =>
    obtain ⟨q, hq, rfl⟩ := List.getElem_of_mem (frs_mem.1 hr).1
    refine ⟨hs_all hq, D q hq f h.le (.inl hq) hr ?_⟩
    refine ⟨min j rs[q].body.length, Nat.min_le_right _ _, .inl ?_⟩
    rw [ends_tells S C hh h.le, ← List.take_eq_take_min]
    exact (der_frs ht).1 h
  | @go r f k j s hr h hj h' ih =>
    obtain ⟨q, hq, rfl⟩ := List.getElem_of_mem (frs_mem.1 hr).1
    obtain ⟨hl, rfl⟩ := List.getElem?_eq_some_iff.1 hj
    have hk := h'.le
    have hf := h.le
    refine ⟨hs_all hq, D q hq f (by omega) (.inl hq) hr ?_⟩
    exact ⟨j, by omega, .inr ⟨k, hf, hk, hl, (ends_tells S C hh (by omega)).2 ((der_frs ht).1 h), ih.1, ih.2⟩⟩
/-- when nothing is left to be filled in, the list tells all -/
theorem begins_tells (B : BSound rs u Bg) (D : BDid rs u T Bg rs.length 0) (S : TSound rs u T) (C : TClosed rs u T) (R : Rt rs) (ht : ∀ s ∈ u, tokB s = true) {i : Nat} (hi : i < (hsOf rs).length) {f : Nat} (hf : f ≤ u.length) : Bg (13 * i + f) = true ↔ Beg (· ∈ frs rs) u u.length (hsOf rs)[i] f := by
  constructor
  · exact B i hi f hf
  · intro h
    have := (D.walk S C R ht h).2
    rwa [hIx_get (show (hsOf rs).Nodup from headsTo_nodup rs _) hi] at this
theorem BDid.zero : BDid rs u T Bg 0 0 := fun a _ x _ h => by omega
theorem BDid.rule {i : Nat} (h : BDid rs u T Bg i (u.length + 1)) : BDid rs u T Bg (i + 1) 0 := fun a ha x hx hc => h a ha x hx (by omega)
theorem BDid.step {i f : Nat} (h : BDid rs u T Bg i f) (hs : ∀ h : i < rs.length, rs[i] ∈ frs rs → bodyP T rs u Bg rs[i].body f → Bg (13 * hIx (hsOf rs) rs[i].head + f) = true) : BDid rs u T Bg i (f + 1) := fun a ha x hx hc hg hb => by
  by_cases hq : a = i ∧ x = f
  · obtain ⟨rfl, rfl⟩ := hq
    exact hs ha hg hb
  · exact h a ha x hx (by omega) hg hb
end
def setB (Bg : Nat → Bool) (q : Nat) : Nat → Bool := fun p => if p = q then true else Bg p
theorem BSound.set {rs : List RuleD} {u : List ByteArray} {Bg : Nat → Bool} (B : BSound rs u Bg) {i f : Nat} (hf : f ≤ u.length) (h12 : u.length ≤ 12) (hd : ∀ h : i < (hsOf rs).length, Beg (· ∈ frs rs) u u.length (hsOf rs)[i] f) : BSound rs u (setB Bg (13 * i + f)) := by
  intro a ha x hx h
  unfold setB at h
  split at h
  · obtain rfl : a = i := by omega
    obtain rfl : x = f := by omega
    exact hd ha
  · exact B a ha x hx h
/-- whether something was filled in since B0; if not, so much was looked at -/
structure FlagB (n : Nat) (B0 Bg : Nat → Bool) (ag : Bool) (D : Prop) : Prop where
  no : ag = false → Bg = B0 ∧ D
  yes : ag = true → emptyAt Bg n < emptyAt B0 n
theorem FlagB.more {n : Nat} {B0 Bg : Nat → Bool} {ag : Bool} {D D' : Prop} (h : FlagB n B0 Bg ag D) (hd : ag = false → D → D') : FlagB n B0 Bg ag D' := ⟨fun e => ⟨(h.no e).1, hd e (h.no e).2⟩, h.yes⟩
theorem FlagB.set {n : Nat} {B0 Bg : Nat → Bool} {ag : Bool} {D D' : Prop} (h : FlagB n B0 Bg ag D) {q : Nat} (hq : q < n) (hf : Bg q = false) : FlagB n B0 (setB Bg q) true D' := by
  refine ⟨(fun e => by cases e), fun _ => ?_⟩
  have h1 : emptyAt (setB Bg q) n + 1 = emptyAt Bg n := emptyAt_less hq hf (by simp [setB]) fun p hp => by simp [setB, hp]
  cases ag with
  | false => rw [← (h.no rfl).1]; omega
  | true => have := h.yes rfl; omega
end Go.Proofs.Ytonfiahihmcmlaa
