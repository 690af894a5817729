/- The walk of the model's l03Reach. -/
import Derived.Test.YtbaofldcdcllfaaFixT
import Derived.Test.YtbaofldcdcllfaaReachI
namespace Go.Proofs.Ytbaofldcdcllfaa
open Go.RowKit

/-- a list of yes and no, in blocks ahead of hi -/
def BoolsAt (w : World) (hi : Nat) (v : Value) (gs : List Bool) : Prop :=
  ∃ A c, v = .slice A gs.length c ∧ gs.length ≤ c ∧ c ≤ maxLen ∧
    (0 < gs.length → ∃ b off, A = some ⟨b, off, none⟩ ∧ b < hi ∧ ∀ i (h : i < gs.length), w.cell? ⟨b, off + i, none⟩ = some (.bool gs[i]))
theorem BoolsAt.below {w w' : World} {hi : Nat} {v : Value} {l : List Bool} (h : BoolsAt w hi v l) {B : Nat} (b : Below B w w') (hB : hi ≤ B) : BoolsAt w' hi v l := by
  obtain ⟨A, c, h1, h2, h3, h5⟩ := h
  refine ⟨A, c, h1, h2, h3, fun hp => ?_⟩
  obtain ⟨g, off, e, hg, hc⟩ := h5 hp
  exact ⟨g, off, e, hg, fun i hi => (b.cell (p := ⟨g, off + i, none⟩) (by show g < B; omega)).trans (hc i hi)⟩
/-- the numbers of the rules that are good -/
def ixOf (gs : List Bool) : List Nat := (List.range gs.length).filter fun i => gs.getD i false
theorem ixOf_mem {gs : List Bool} {i : Nat} : i ∈ ixOf gs ↔ ∃ h : i < gs.length, gs[i] = true := by
  unfold ixOf
  rw [List.mem_filter, List.mem_range]
  constructor
  · rintro ⟨h1, h2⟩; exact ⟨h1, by simpa [h1] using h2⟩
  · rintro ⟨h1, h2⟩; exact ⟨h1, by simpa [h1] using h2⟩

structure WayR (rs : List RuleD) (ix : List Nat) (ins : List ByteArray) : Prop where
  nodup : ins.Nodup
  rch : ∀ s ∈ ins, Rch rs ix s
  start : startOf rs ∈ ins
def bodies (rs : List RuleD) : List ByteArray := rs.flatMap (·.body)
theorem bodies_len (rs : List RuleD) (h : ∀ i (hi : i < rs.length), rs[i].body.length ≤ 5) : (bodies rs).length ≤ rs.length * 5 := by
  induction rs with
  | nil => simp [bodies]
  | cons r rs ih =>
    have h0 := h 0 (by simp)
    have h1 := ih fun i hi => by have := h (i + 1) (by simpa using hi); simpa using this
    simp only [bodies, List.flatMap_cons, List.length_append, List.length_cons, List.getElem_cons_zero] at h0 h1 ⊢
    omega
theorem aft_body {rs : List RuleD} {ix : List Nat} {h s : ByteArray} (ha : Aft rs ix tkAll h s) : s ∈ bodies rs := by
  unfold bodies
  rw [List.mem_flatMap]
  cases ha with
  | one i hi _ _ _ ht => exact ⟨_, List.getElem_mem hi, ht⟩
  | more i hi _ _ _ ht => exact ⟨_, List.getElem_mem hi, ht⟩
theorem WayR.len {rs : List RuleD} {ix : List Nat} {ins : List ByteArray} (h : WayR rs ix ins) (R : Rt rs) : ins.length ≤ 101 := by
  have h1 : ins.length ≤ (startOf rs :: bodies rs).length := h.nodup.length_le_of_subset fun s hs => by
    rcases h.rch s hs with e | e
    · rw [e]; simp
    · exact List.mem_cons_of_mem _ (aft_body e)
  have h2 := bodies_len rs R.len
  have h3 := R.few
  simp only [List.length_cons] at h1
  omega
theorem nodup_snoc {ins : List ByteArray} {s : ByteArray} (h : ins.Nodup) (hn : inB ins s = false) : (ins ++ [s]).Nodup := by
  rw [List.nodup_append]
  refine ⟨h, by simp, fun a ha b hb e => ?_⟩
  rw [List.mem_singleton] at hb
  subst hb e
  rw [(inB_iff _ _).2 ha] at hn; cases hn
theorem WayR.more {rs : List RuleD} {ix : List Nat} {ins : List ByteArray} (h : WayR rs ix ins) {i : Nat} (hi : i < rs.length) (hx : i ∈ ix) (h1 : inB ins rs[i].head = true) {s : ByteArray} (hs : s ∈ rs[i].body) (hn : inB ins s = false) : WayR rs ix (ins ++ [s]) := by
  refine ⟨nodup_snoc h.nodup hn, fun t ht => ?_, List.mem_append_left _ h.start⟩
  rw [List.mem_append, List.mem_singleton] at ht
  rcases ht with ht | rfl
  · exact h.rch t ht
  · refine .inr (Aft.step hi hx ?_ hs)
    rcases h.rch _ ((inB_iff _ _).1 h1) with e | e
    · exact .inl e
    · exact .inr e
/-- closed at a rule -/
def Shut (rs : List RuleD) (ix : List Nat) (ins : List ByteArray) (i : Nat) : Prop := ∀ hi : i < rs.length, i ∈ ix → inB ins rs[i].head = true → ∀ s ∈ rs[i].body, headB s = true → inB ins s = true
theorem WayR.full {rs : List RuleD} {ix : List Nat} {ins : List ByteArray} (h : WayR rs ix ins) (R : Rt rs) (hc : ∀ i, i < rs.length → Shut rs ix ins i) {s : ByteArray} (hs : headB s = true) : inB ins s = true ↔ Rch rs ix s := by
  constructor
  · intro h1; exact h.rch s ((inB_iff _ _).1 h1)
  · rintro (rfl | ha)
    · exact (inB_iff _ _).2 h.start
    · induction ha with
      | one i hi hx he s ht => exact hc i hi hi hx (by rw [he]; exact (inB_iff _ _).2 h.start) s ht hs
      | more i hi hx ha s ht ih => exact hc i hi hi hx (ih (R.head i hi)) s ht hs
open Classical in
/-- the heads that are reached by the rules of these numbers -/
noncomputable def reachBy (rs : List RuleD) (ix : List Nat) : List ByteArray := (hsOf rs).filter fun s => decide (Rch rs ix s)
theorem WayR.out {rs : List RuleD} {ix : List Nat} {ins : List ByteArray} (h : WayR rs ix ins) (R : Rt rs) (hc : ∀ i, i < rs.length → Shut rs ix ins i) : ((hsOf rs).filter fun s => inB ins s) = reachBy rs ix := by
  unfold reachBy
  apply List.filter_congr
  intro s hs
  rw [Bool.eq_iff_iff, h.full R hc (R.hs_head hs)]
  simp

theorem Sts.lit1 (w : World) {base : Nat} (hb : base ≤ w.heap.size) (s : ByteArray) : Sts (w.alloc (.cells #[.string s] 9)) base (.slice (some ⟨w.heap.size, 0, none⟩) 1 1) [s] := World.ownsRow_lit w #[.string s] 1 hb (by unfold maxLen; omega) rfl

set_option maxRecDepth 100000 in
set_option maxHeartbeats 8000000 in
theorem specReach_any (rs : List RuleD) (v : Value) (gv : Value) (gs : List Bool) (lo hi hg : Nat) (w : World) (h : Rules w lo hi v rs) (hh : hi ≤ w.heap.size) (hq : gramB rs = true) (hb : BoolsAt w hg gv gs) (hhg : hg ≤ w.heap.size) (hgl : gs.length = rs.length) :
    Calls Try.prog 98 #[.agg #[v], gv] w (MadeS w (reachBy rs (ixOf gs))) := by
  obtain ⟨i0, hi0, hz0, hz1, hz2⟩ := info_parts Try.infoStr
  have HV := Lib.hid h
  have RT := Lib.hid (Rt.of hq)
  have hl20 := RT.out.few
  have hl1 := RT.out.one
  obtain ⟨G, gc, rfl, hgc, hgm, hgcell⟩ := hb
  have HGL := Lib.hid hgl
  rw [hgl] at hgc ⊢
  clear hgl
  obtain ⟨A, c, rfl, hlc, hc, hcell⟩ := h
  unfold maxLen at hc hgm
  obtain ⟨b, off, rfl, hbl, hbh, hcc⟩ := hcell (by omega)
  obtain ⟨gb, goff, rfl, hgbh, hgcc⟩ := hgcell (by rw [HGL.out]; omega)
  have hsz : ∀ ins, WayR rs (ixOf gs) ins → ∀ s ∈ ins, s.size ≤ maxLen := fun ins hw s hs => by
    have key : headB s = true ∨ symOK s = true := by
      rcases hw.rch s hs with e | e
      · left; rw [e, RT.out.start]; exact RT.out.head 0 hl1
      · right
        have := aft_body e
        unfold bodies at this
        rw [List.mem_flatMap] at this
        obtain ⟨r, hr, hs⟩ := this
        obtain ⟨i, hi, rfl⟩ := List.getElem_of_mem hr
        exact RT.out.body i hi s hs
    have : s.size ≤ 4 := by
      rcases key with k | k
      · exact headB_size k
      · unfold symOK at k
        rw [Bool.or_eq_true] at k
        rcases k with k | k
        · exact headB_size k
        · exact tokB_size k
    unfold maxLen; omega
  have HZ := Lib.hid hsz
  have HC := Lib.hid hcc
  have HGC := Lib.hid hgcc
  have hst := RT.out.start
  obtain ⟨_, d0, _, _, _⟩ := hcc 0 hl1
  simp at d0
  have HST := Lib.hid hst
  have HW0 : Hid (WayR rs (ixOf gs) [rs[0].head]) := Lib.hid ⟨by simp, fun s hs => by rw [List.mem_singleton] at hs; rw [hs]; exact .inl hst.symm, by rw [hst]; simp⟩
  clear hcell hq hsz hgcell hcc hgcc hst
  have hbw : b < w.heap.size := by omega
  go_enter Try.func98, Try.ntmps98
  go_wp2
  go_loopw [5, 6, 7, 8, 9] (fun x ag _ _ _ wr => ∃ (ins : List ByteArray) (a : Bool), ag = .bool a ∧ Sts wr (w.heap.size + 1) x ins ∧ WayR rs (ixOf gs) ins ∧ (a = false → ∀ i, i < rs.length → Shut rs (ixOf gs) ins i) ∧ Row wr w.heap.size 41 #[.slice (some ⟨b, off, none⟩) rs.length c] ∧ Below w.heap.size w wr) (fun x ag _ _ _ _ => match x, ag with | .slice _ n _, .bool true => 103 - n | _, _ => 0)
  case atStart => exact ⟨[rs[0].head], true, rfl, by simpa using Sts.lit1 (w.alloc (.cells #[.slice (some ⟨b, off, none⟩) rs.length c] 41)) (base := w.heap.size + 1) (by simp) rs[0].head, HW0.out, (fun h => by cases h), (Row.made _ _ _).alloc _, al2 _ _ _⟩
  case round =>
    obtain ⟨ins0, a, rfl, hsts, hway, hcl, hrow, hbw⟩ := hrel
    have hsw := hbw.size
    have HWAY := Lib.hid hway
    have HCL := Lib.hid hcl
    have hlen := hway.len RT.out
    have HS := Lib.hid hsts
    obtain ⟨By, dy, rfl⟩ := hsts.shape
    rename World => wo
    clear hway hcl hsts
    cases a
    · have HO := Lib.hid (HWAY.out.out RT.out (HCL.out rfl))
      have hwl := hrow.lt
      have hc0 := hrow.cell 0
      simp at hc0
      have ST := HS.out.strs (HZ.out _ HWAY.out)
      have HR := Lib.hid hrow
      clear hrow
      go_wp2_with fail
      refine (specSort_any rs _ _ ins0 lo hi _ _ _ (HV.out.below hbw hh) (by omega) (by omega) ST (Nat.le_refl _)).mono ?_
      rintro e w2 ⟨u, g, rfl, ho, hgg, b2⟩
      rw [HO.out] at ho hgg
      go_wp2
      go_ret
      exact ⟨u, g, rfl, ho, fun hn => by have := hgg hn; omega, hbw.trans (b2.mono hsw)⟩
    · have HROW := Lib.hid hrow
      have HBW := Lib.hid hbw
      clear hrow hbw
      go_wp2
      go_loopw [5, 6, 7, 8, 9] (fun x ag i _ _ wr => ∃ (j : Nat) (ins : List ByteArray) (a : Bool), j ≤ rs.length ∧ i = .int .i64 (j : Int) ∧ ag = .bool a ∧ Sts wr (w.heap.size + 1) x ins ∧ WayR rs (ixOf gs) ins ∧ ins0.length ≤ ins.length ∧ (a = true → ins0.length < ins.length) ∧ (a = false → ∀ i, i < j → Shut rs (ixOf gs) ins i) ∧ Row wr w.heap.size 41 #[.slice (some ⟨b, off, none⟩) rs.length c] ∧ Below w.heap.size w wr) (fun _ _ i _ _ _ => rs.length - (intOf i).toNat)
      case atStart => exact ⟨0, ins0, false, by omega, rfl, rfl, HS.out, HWAY.out, Nat.le_refl _, (fun h => by cases h), (fun _ i hj => by omega), HROW.out, HBW.out⟩
      case round =>
        obtain ⟨j, ins1, a1, hj, rfl, rfl, hsts, hway, hle, hgt, hcl, hrow, hbw⟩ := hrel
        have hsw := hbw.size
        have hwl := hrow.lt
        have hlen' := hway.len RT.out
        have HW := Lib.hid hway
        have HCI := Lib.hid hcl
        have HGT := Lib.hid hgt
        have HSI := Lib.hid hsts
        have HR := Lib.hid hrow
        have hc0 := hrow.cell 0
        simp at hc0
        obtain ⟨Bz, dz, rfl⟩ := hsts.shape
        rename World => wm
        clear hway hcl hgt hsts hrow
        by_cases hlt : j < rs.length
        · obtain ⟨hhs, d0, u, d1, hst⟩ := HC.out j hlt
          have d0' := (hbw.cell (p := ⟨b, off + j * 2, none⟩) (by show b < _; omega)).trans d0
          have d1' := (hbw.cell (p := ⟨b, off + j * 2 + 1, none⟩) (by show b < _; omega)).trans d1
          have hst' := hst.below hbw hh
          clear d0 d1 hst
          obtain ⟨A', c', rfl, hlc', hc', hsz', hcell'⟩ := hst'
          unfold maxLen at hc'
          have HCB := Lib.hid hcell'
          have HZB := Lib.hid hsz'
          have hbl5 := RT.out.len j hlt
          have ha := al1 wm (.cells #[.string rs[j].head, .slice A' rs[j].body.length c'] 101)
          have HBM := Lib.hid hbw
          have HA := Lib.hid ha
          have HR4 := Lib.hid (HR.out.alloc (.cells #[.string rs[j].head, .slice A' rs[j].body.length c'] 101))
          have HS4 : Hid (Sts (wm.alloc (.cells #[.string rs[j].head, .slice A' rs[j].body.length c'] 101)) _ _ _) := Lib.hid (HSI.out.below ha)
          clear hcell' hsz' hbw ha
          go_wp2
          go_loopw [5, 6, 9] (fun x ag i wr => ∃ (m : Nat) (ins : List ByteArray) (a : Bool), m ≤ rs[j].body.length ∧ i = .int .i64 (m : Int) ∧ ag = .bool a ∧ Sts wr (w.heap.size + 1) x ins ∧ WayR rs (ixOf gs) ins ∧ ins0.length ≤ ins.length ∧ (a = true → ins0.length < ins.length) ∧ (a = false → ∀ i, i < j → Shut rs (ixOf gs) ins i) ∧
            (a = false → ∀ q (hq : q < rs[j].body.length), q < m → headB rs[j].body[q] = true → inB ins rs[j].body[q] = true) ∧ Row wr wm.heap.size 101 #[.string rs[j].head, .slice A' rs[j].body.length c'] ∧ Row wr w.heap.size 41 #[.slice (some ⟨b, off, none⟩) rs.length c] ∧ Below w.heap.size w wr) (fun _ _ i _ => rs[j].body.length - (intOf i).toNat)
          case atStart => exact ⟨0, ins1, a1, by omega, rfl, rfl, HS4.out, HW.out, hle, HGT.out, HCI.out, (fun _ q _ hq => by omega), Row.made _ _ _, HR4.out, HBM.out.trans (HA.out.mono hsw)⟩
          case round =>
            obtain ⟨m, ins, a, hm, rfl, rfl, hsts, hway, hle2, hgt2, hcl2, hq2, hrr, hrow2, hbr⟩ := hrel
            have hsr := hbr.size
            have hlen2 := hway.len RT.out
            have HW2 := Lib.hid hway
            have HC2 := Lib.hid hcl2
            have HG2 := Lib.hid hgt2
            have HQ2 := Lib.hid hq2
            have HS2 := Lib.hid hsts
            have HRR := Lib.hid hrr
            have HRW := Lib.hid hrow2
            have hrl := hrr.lt
            have r0 := hrr.cell 0
            have r1 := hrr.cell 1
            have hgj := (hbr.cell (p := ⟨gb, goff + j, none⟩) (by show gb < _; omega)).trans (HGC.out j (by rw [HGL.out]; exact hlt))
            simp at r0 r1
            obtain ⟨Bx, dx, rfl⟩ := hsts.shape
            have ST := HS2.out.strs (HZ.out _ HW2.out)
            clear hway hcl2 hgt2 hq2 hsts hrr hrow2
            by_cases hml : m < rs[j].body.length
            · have hjg : j < gs.length := by rw [HGL.out]; exact hlt
              have HJG := Lib.hid hjg
              cases hgd : gs[j]'hjg
              · have HSH : Hid (Shut rs (ixOf gs) ins j) := Lib.hid fun _ hx => by
                  obtain ⟨_, e⟩ := ixOf_mem.1 hx
                  rw [hgd] at e; cases e
                rw [hgd] at hgj
                clear hgd
                have HFC : Hid (a = false → ∀ i, i < j + 1 → Shut rs (ixOf gs) ins i) := Lib.hid fun h i hi => by
                  by_cases e : i = j
                  · subst e; exact HSH.out
                  · exact HC2.out h i (by omega)
                go_wp2
                go_roundw
                case rel => exact ⟨j + 1, ins, a, by omega, by go_num, rfl, HS2.out, HW2.out, hle2, HG2.out, HFC.out, HRW.out, hbr⟩
                case measure => simp [intOf]; omega
              · have HIX : Hid (j ∈ ixOf gs) := Lib.hid (ixOf_mem.2 ⟨HJG.out, hgd⟩)
                rw [hgd] at hgj
                clear hgd
                cases hin : inB ins rs[j].head
                · have HI := Lib.hid hin
                  have HFC : Hid (a = false → ∀ i, i < j + 1 → Shut rs (ixOf gs) ins i) := Lib.hid fun h i hi => by
                    by_cases e : i = j
                    · subst e; intro _ _ hx; rw [hin] at hx; cases hx
                    · exact HC2.out h i (by omega)
                  clear hin
                  go_wp2_with fail
                  refine (specIn_any _ ins rs[j].head _ _ _ ST).mono ?_
                  rintro e w1 ⟨rfl, rfl⟩
                  rw [HI.out]
                  go_wp2
                  go_roundw
                  case rel => exact ⟨j + 1, ins, a, by omega, by go_num, rfl, HS2.out, HW2.out, hle2, HG2.out, HFC.out, HRW.out, hbr⟩
                  case measure => simp [intOf]; omega
                · have HI := Lib.hid hin
                  clear hin
                  obtain ⟨b1, off1, rfl, _, hbh1, hcc1⟩ := HCB.out (by omega)
                  have hbm := HBM.out
                  have hcb := (hbr.cell (p := ⟨b1, off1 + m, none⟩) (by show b1 < _; omega)).trans ((hbm.cell (p := ⟨b1, off1 + m, none⟩) (by show b1 < _; omega)).symm.trans (hcc1 m hml))
                  have hks := HZB.out _ (List.getElem_mem hml)
                  clear hcc1 hbm
                  cases hhb : headB rs[j].body[m]
                  · have HH := Lib.hid hhb
                    clear hhb
                    go_wp2_with fail
                    refine (specIn_any _ ins rs[j].head _ _ _ ST).mono ?_
                    rintro e w1 ⟨rfl, rfl⟩
                    rw [HI.out]
                    go_wp2_with fail
                    refine (specIsHead_any _ _ hks).mono ?_
                    rintro e w1 ⟨rfl, rfl⟩
                    rw [HH.out]
                    go_wp2
                    go_roundw
                    case rel => exact ⟨m + 1, ins, a, by omega, by go_num, rfl, HS2.out, HW2.out, hle2, HG2.out, HC2.out, (fun h q hq hqm hx => by
                      by_cases e : q = m
                      · subst e; rw [HH.out] at hx; cases hx
                      · exact HQ2.out h q hq (by omega) hx), HRR.out, HRW.out, hbr⟩
                    case measure => simp [intOf]; omega
                  · have HH := Lib.hid hhb
                    clear hhb
                    cases hib : inB ins rs[j].body[m]
                    · have HIB := Lib.hid hib
                      have HWM := Lib.hid (HW2.out.more hlt HIX.out HI.out (List.getElem_mem hml) hib)
                      clear hib
                      go_wp2_with fail
                      refine (specIn_any _ ins rs[j].head _ _ _ ST).mono ?_
                      rintro e w1 ⟨rfl, rfl⟩
                      rw [HI.out]
                      go_wp2_with fail
                      refine (specIsHead_any _ _ hks).mono ?_
                      rintro e w1 ⟨rfl, rfl⟩
                      rw [HH.out]
                      go_wp2_with fail
                      refine (specIn_any _ ins rs[j].body[m] _ _ _ ST).mono ?_
                      rintro e w1 ⟨rfl, rfl⟩
                      rw [HIB.out]
                      clear ST
                      go_wp2_with (at_builtin; refine wpList_append_own _ rfl _ _ 66 rfl (w.heap.size + 1) 9 i0 (.string ByteArray.empty) 1 16 Try.underlying66 hi0 hz0 hz1 hz2 rfl (by decide) _ _ _ rfl (World.ownsRow.alloc HS2.out _) ⟨wr.heap.size, 0, none⟩ 1 1 [.string rs[j].body[m]] rfl rfl (cell_one_new _ _ _) (one_str _) (by unfold maxLen; omega) (by omega) (by simp; omega) ?_)
                      intro v1 w1 hown1 hg1 _
                      have s1 : Sts w1 (w.heap.size + 1) v1 (ins ++ [rs[j].body[m]]) := Sts.one _ hown1
                      have q1 := Tx.row_grown (HRR.out.alloc _) (World.ownsRow.alloc HS2.out _) (by decide) hg1
                      have q2 := Tx.row_grown (HRW.out.alloc _) (World.ownsRow.alloc HS2.out _) (by decide) hg1
                      have hb1 : Below w.heap.size w w1 := Tx.below_grown (hbr.trans ((al1 _ _).mono hbr.size)) (World.ownsRow.alloc HS2.out _) hg1 (by simp; omega) (by omega)
                      clear hown1 hg1
                      go_wp2
                      go_roundw
                      case rel => exact ⟨m + 1, _, true, by omega, by go_num, rfl, s1, HWM.out, by simp; omega, (fun _ => by simp; omega), (fun h => by cases h), (fun h => by cases h), q1, q2, hb1⟩
                      case measure => simp [intOf]; omega
                    · have HIB := Lib.hid hib
                      clear hib
                      go_wp2_with fail
                      refine (specIn_any _ ins rs[j].head _ _ _ ST).mono ?_
                      rintro e w1 ⟨rfl, rfl⟩
                      rw [HI.out]
                      go_wp2_with fail
                      refine (specIsHead_any _ _ hks).mono ?_
                      rintro e w1 ⟨rfl, rfl⟩
                      rw [HH.out]
                      go_wp2_with fail
                      refine (specIn_any _ ins rs[j].body[m] _ _ _ ST).mono ?_
                      rintro e w1 ⟨rfl, rfl⟩
                      rw [HIB.out]
                      go_wp2
                      go_roundw
                      case rel => exact ⟨m + 1, ins, a, by omega, by go_num, rfl, HS2.out, HW2.out, hle2, HG2.out, HC2.out, (fun h q hq hqm hx => by
                        by_cases e : q = m
                        · subst e; exact HIB.out
                        · exact HQ2.out h q hq (by omega) hx), HRR.out, HRW.out, hbr⟩
                      case measure => simp [intOf]; omega
            · have HFC : Hid (a = false → ∀ i, i < j + 1 → Shut rs (ixOf gs) ins i) := Lib.hid fun h i hi => by
                by_cases e : i = j
                · subst e
                  intro _ _ _ s hs hx
                  obtain ⟨q, hq, rfl⟩ := List.getElem_of_mem hs
                  exact HQ2.out h q hq (by omega) hx
                · exact HC2.out h i (by omega)
              go_wp2
              go_roundw
              case rel => exact ⟨j + 1, ins, a, by omega, by go_num, rfl, HS2.out, HW2.out, hle2, HG2.out, HFC.out, HRW.out, hbr⟩
              case measure => simp [intOf]; omega
        · have HFC : Hid (a1 = false → ∀ i, i < rs.length → Shut rs (ixOf gs) ins1 i) := Lib.hid fun h i hi => HCI.out h i (by omega)
          go_wp2
          go_roundw
          case rel => exact ⟨ins1, a1, rfl, HSI.out, HW.out, HFC.out, HR.out, hbw⟩
          case measure =>
            cases a1
            · simp; omega
            · have := HGT.out rfl
              simp; omega
end Go.Proofs.Ytbaofldcdcllfaa
