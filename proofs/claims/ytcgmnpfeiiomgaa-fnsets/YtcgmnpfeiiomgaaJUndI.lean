import Derived.Test.YtcgmnpfeiiomgaaJAft
import Derived.Test.YtcgmnpfeiiomgaaJSortS
import Derived.Test.YtcgmnpfeiiomgaaJRightb
/- Undefined: what it is, and the program's and the model's walks. -/
namespace Go.Proofs.Ytcgmnpfeiiomgaa
open Go.RowKit

theorem ret_str {a b : ByteArray} (h : a = b) : Ending.returned (.string a) = .returned (.string b) := by rw [h]
/-- a head that is the head of no rule -/
def undB (rs : List RuleD) (s : ByteArray) : Bool := headB s && !inB (hsOf rs) s
def undefOf (rs : List RuleD) : ByteArray := if gramB rs = true then ((rs.flatMap (·.body)).find? (undB rs)).getD ByteArray.empty else ByteArray.empty
theorem undef_f {rs : List RuleD} (h : gramB rs = false) : undefOf rs = ByteArray.empty := if_neg (by rw [h]; decide)
theorem undef_none {rs : List RuleD} (h : ∀ i (hi : i < rs.length), ∀ s ∈ rs[i].body, undB rs s = false) : undefOf rs = ByteArray.empty := by
  unfold undefOf
  split
  · rw [List.find?_eq_none.2]
    · rfl
    · intro s hs
      rw [List.mem_flatMap] at hs
      obtain ⟨r, hr, hs⟩ := hs
      obtain ⟨i, hi, rfl⟩ := List.getElem_of_mem hr
      rw [h i hi s hs]; decide
  · rfl
theorem undef_hit {rs : List RuleD} (hq : gramB rs = true) {j k : Nat} (hj : j < rs.length) (hk : k < rs[j].body.length) (h1 : ∀ i (hi : i < rs.length), i < j → ∀ s ∈ rs[i].body, undB rs s = false)
    (h2 : ∀ m (hm : m < rs[j].body.length), m < k → undB rs rs[j].body[m] = false) (h3 : undB rs rs[j].body[k] = true) : undefOf rs = rs[j].body[k] := by
  unfold undefOf
  rw [if_pos hq]
  have e : (rs.flatMap (·.body)).find? (undB rs) = some rs[j].body[k] := by
    rw [List.find?_eq_some_iff_append]
    refine ⟨h3, (rs.take j).flatMap (·.body) ++ rs[j].body.take k, rs[j].body.drop (k + 1) ++ (rs.drop (j + 1)).flatMap (·.body), ?_, ?_⟩
    · have a : rs = rs.take j ++ rs[j] :: rs.drop (j + 1) := by rw [← List.drop_eq_getElem_cons hj, List.take_append_drop]
      have b : rs[j].body = rs[j].body.take k ++ rs[j].body[k] :: rs[j].body.drop (k + 1) := by rw [← List.drop_eq_getElem_cons hk, List.take_append_drop]
      conv => lhs; rw [a]
      rw [List.flatMap_append, List.flatMap_cons]
      have c : rs[j].body ++ (rs.drop (j + 1)).flatMap (·.body) = rs[j].body.take k ++ rs[j].body[k] :: rs[j].body.drop (k + 1) ++ (rs.drop (j + 1)).flatMap (·.body) := congrArg (· ++ (rs.drop (j + 1)).flatMap (·.body)) b
      rw [c]
      simp only [List.append_assoc, List.cons_append]
    · intro s hs
      rw [List.mem_append] at hs
      rcases hs with hs | hs
      · rw [List.mem_flatMap] at hs
        obtain ⟨r, hr, hs⟩ := hs
        rw [List.mem_take_iff_getElem] at hr
        obtain ⟨i, hi, rfl⟩ := hr
        rw [h1 i (by omega) (by omega) s hs]; rfl
      · rw [List.mem_take_iff_getElem] at hs
        obtain ⟨m, hm, rfl⟩ := hs
        rw [h2 m (by omega) (by omega)]; rfl
  rw [e]; rfl
theorem Rt.und_idx {rs : List RuleD} (R : Rt rs) {s : ByteArray} (hs : symOK s = true) : undB rs s = decide (setN (hsOf rs) s = 2097152) := by
  rw [Bool.eq_iff_iff, decide_eq_true_eq]
  have hp : setN (hsOf rs) s = 2097152 ↔ symIdx (hsOf rs) s = 21 := by
    unfold setN
    constructor
    · intro h
      exact (Nat.pow_right_inj (a := 2) (by omega)).1 (show 2 ^ symIdx (hsOf rs) s = 2 ^ 21 from h)
    · intro h; rw [h]
  rw [hp]
  unfold undB
  rw [Bool.and_eq_true]
  constructor
  · rintro ⟨h1, h2⟩
    have ht := head_no_tok h1
    apply symIdx_miss ht
    intro j hj e
    rw [inB_t hj e] at h2; cases h2
  · intro h
    have hn : tokB s = false := by
      cases ht : tokB s
      · rfl
      · rw [symIdx_tok ht] at h; omega
    have hh : headB s = true := by
      unfold symOK at hs
      rw [hn, Bool.or_false] at hs
      exact hs
    refine ⟨hh, ?_⟩
    cases hi : inB (hsOf rs) s
    · rfl
    · have := R.idx_mem ((inB_iff _ _).1 hi)
      omega
theorem rn_body {rs : List RuleD} {j : Nat} (h : j < rs.length) : (rn rs j).body = rs[j].body.map (setN (hsOf rs)) := by unfold rn; rw [ruleAt_eq h]

set_option maxRecDepth 100000 in
set_option maxHeartbeats 4000000 in
theorem specUndefined_any (rs : List RuleD) (v : Value) (lo hi : Nat) (w : World) (h : Rules w lo hi v rs) (hh : hi ≤ w.heap.size) :
    Calls Try.prog 42 #[.agg #[v]] w fun e w' => e = .returned (.string (undefOf rs)) ∧ Below w.heap.size w w' := by
  have HV := Lib.hid h
  obtain ⟨A, c, rfl, hlc, hc, hcell⟩ := h
  unfold maxLen at hc
  have HC := Lib.hid hcell
  clear hcell
  have hb := al1 w (.cells #[.slice A rs.length c] 25)
  have R0 := Row.made w 25 #[.slice A rs.length c]
  cases hq : gramB rs
  · rw [undef_f hq]
    have HQ := Lib.hid hq
    clear hq
    go_enter Try.func42, Try.ntmps42
    go_wp2_with fail
    refine (specGramRight_any rs _ lo hi _ (HV.out.below hb hh) (by simp; omega)).mono ?_
    rintro e w1 ⟨rfl, b1⟩
    rw [HQ.out]
    go_wp2
    go_ret
    exact ⟨rfl, hb.trans (b1.mono (by simp))⟩
  · have HQ := Lib.hid hq
    have RT := Lib.hid (Rt.of hq)
    have hl20 := RT.out.few
    clear hq
    go_enter Try.func42, Try.ntmps42
    go_wp2_with fail
    refine (specGramRight_any rs _ lo hi _ (HV.out.below hb hh) (by simp; omega)).mono ?_
    rintro e w1 ⟨rfl, b1⟩
    rw [HQ.out]
    have R1 := R0.below b1 (by simp)
    have c1 := R1.cell 0
    simp at c1
    have hb1 := hb.trans (b1.mono (by simp))
    have z1 := hb1.size
    have hl1 := R1.lt
    clear b1 hb R0
    go_wp2_with fail
    refine (specHeadsOf_any rs _ lo hi _ (HV.out.below hb1 hh) (by omega) (by omega)).mono ?_
    rintro e w2 ⟨u, g, rfl, ho, hg, b2⟩
    change OwnS w2 g u (hsOf rs) at ho
    have hg1 : hsOf rs ≠ [] → w1.heap.size ≤ g ∧ g < w2.heap.size := fun hn => hg hn
    have HST := Lib.hid (ho.strs hg1)
    obtain ⟨HA, hc', rfl, -⟩ := ho
    have R2 := R1.below b2 hl1
    have c2 := R2.cell 0
    simp at c2
    have hb2 := hb1.trans (b2.mono z1)
    have z2 := hb2.size
    have hl2 := R2.lt
    clear hg hg1 R1 R2 b2 c1
    go_wp2
    go_loop [4, 5, 6] (fun i _ _ => ∃ j : Nat, j ≤ rs.length ∧ i = .int .i64 (j : Int) ∧ ∀ i (hi : i < rs.length), i < j → ∀ s ∈ rs[i].body, undB rs s = false) (fun i _ _ => rs.length - (intOf i).toNat)
    case atStart => exact ⟨0, by omega, rfl, fun _ _ h => by omega⟩
    case round =>
      obtain ⟨j, hj, rfl, hall⟩ := hrel
      have HALL := Lib.hid hall
      clear hall
      by_cases hlt : j < rs.length
      · obtain ⟨b, off, rfl, _, hbh, hcc⟩ := HC.out (by omega)
        obtain ⟨hhs, d0, u, d1, hst⟩ := hcc j hlt
        have d1' := (hb2.cell (p := ⟨b, off + j * 2 + 1, none⟩) (by show b < _; omega)).trans d1
        have hst' := hst.below hb2 hh
        obtain ⟨A', c', rfl, hlc', hcm', hsz', hcell'⟩ := hst'
        unfold maxLen at hcm'
        have HCB := Lib.hid hcell'
        have hbl := RT.out.len j hlt
        clear hcell' hcc d0 d1 hst
        go_wp2
        go_loop [5, 6] (fun i _ => ∃ k : Nat, k ≤ rs[j].body.length ∧ i = .int .i64 (k : Int) ∧ ∀ m (hm : m < rs[j].body.length), m < k → undB rs rs[j].body[m] = false) (fun i _ => rs[j].body.length - (intOf i).toNat)
        case atStart => exact ⟨0, by omega, rfl, fun _ _ h => by omega⟩
        case round =>
          obtain ⟨k, hk, rfl, hin⟩ := hrel
          have HIN := Lib.hid hin
          clear hin
          by_cases hkl : k < rs[j].body.length
          · obtain ⟨b1, off1, rfl, _, hbh1, hcc1⟩ := HCB.out (by omega)
            have hck := hcc1 k hkl
            clear hcc1
            have hsk := hsz' _ (List.getElem_mem hkl)
            have HU : Hid (undB rs rs[j].body[k] = (headB rs[j].body[k] && !inB (hsOf rs) rs[j].body[k])) := Lib.hid rfl
            cases hx : headB rs[j].body[k]
            · have HX := Lib.hid hx
              clear hx
              go_wp2_with fail
              refine (specIsHead_any rs[j].body[k] _ hsk).mono ?_
              rintro e w3 ⟨rfl, rfl⟩
              rw [HX.out]
              go_wp2
              go_round
              case rel => exact ⟨k + 1, by omega, by go_num, fun m hm hmk => by
                by_cases e : m = k
                · subst e; rw [HU.out, HX.out]; rfl
                · exact HIN.out m hm (by omega)⟩
              case measure => simp [intOf]; omega
            · have HX := Lib.hid hx
              clear hx
              cases hy : inB (hsOf rs) rs[j].body[k]
              · have HY := Lib.hid hy
                clear hy
                go_wp2_with fail
                refine (specIsHead_any rs[j].body[k] _ hsk).mono ?_
                rintro e w3 ⟨rfl, rfl⟩
                rw [HX.out]
                go_wp2_with fail
                refine (specIn_any _ (hsOf rs) rs[j].body[k] _ _ _ HST.out).mono ?_
                rintro e w4 ⟨rfl, rfl⟩
                rw [HY.out]
                go_wp2
                go_ret
                exact ⟨ret_str (undef_hit HQ.out hlt hkl HALL.out HIN.out (by rw [HU.out, HX.out, HY.out]; rfl)).symm, hb2⟩
              · have HY := Lib.hid hy
                clear hy
                go_wp2_with fail
                refine (specIsHead_any rs[j].body[k] _ hsk).mono ?_
                rintro e w3 ⟨rfl, rfl⟩
                rw [HX.out]
                go_wp2_with fail
                refine (specIn_any _ (hsOf rs) rs[j].body[k] _ _ _ HST.out).mono ?_
                rintro e w4 ⟨rfl, rfl⟩
                rw [HY.out]
                go_wp2
                go_round
                case rel => exact ⟨k + 1, by omega, by go_num, fun m hm hmk => by
                  by_cases e : m = k
                  · subst e; rw [HU.out, HX.out, HY.out]; rfl
                  · exact HIN.out m hm (by omega)⟩
                case measure => simp [intOf]; omega
          · go_wp2
            go_round
            case rel => exact ⟨j + 1, by omega, by go_num, fun i hi hij s hs => by
              by_cases e : i = j
              · subst e
                obtain ⟨m, hm, rfl⟩ := List.getElem_of_mem hs
                exact HIN.out m hm (by omega)
              · exact HALL.out i hi (by omega) s hs⟩
            case measure => simp [intOf]; omega
      · go_wp2
        go_ret
        exact ⟨ret_str (undef_none fun i hi s hs => HALL.out i hi (by omega) s hs).symm, hb2⟩
end Go.Proofs.Ytcgmnpfeiiomgaa

/- The program's Undefined. -/
namespace Go.Proofs.Ytcgmnpfeiiomgaa
open Go.RowKit

theorem field_rules2 (A B : Option Addr) (n c m d : Nat) (w : World) : (Instr.field 112 (.agg #[.slice A n c, .slice B m d]) 1).run Try.prog w = .ok (.slice B m d) w := by kernel_rfl
theorem symOK_size {s : ByteArray} (k : symOK s = true) : s.size ≤ 4 := by
  unfold symOK at k
  rw [Bool.or_eq_true] at k
  rcases k with k | k
  · exact headB_size k
  · exact tokB_size k

set_option maxRecDepth 100000 in
set_option maxHeartbeats 4000000 in
theorem implUndefined_any (rs : List RuleD) (v : Value) (lo hi : Nat) (w : World) (h : Rules w lo hi v rs) (hh : hi ≤ w.heap.size) :
    Calls Try.prog 41 #[.agg #[v]] w fun e w' => e = .returned (.string (undefOf rs)) ∧ Below w.heap.size w w' := by
  have HV := Lib.hid h
  obtain ⟨A, c, rfl, hlc0, hc0, hcell0⟩ := h
  unfold maxLen at hc0
  have HC0 := Lib.hid hcell0
  clear hcell0
  have hb := al1 w (.cells #[.slice A rs.length c] 25)
  have R0 := Row.made w 25 #[.slice A rs.length c]
  go_enter Try.func41, Try.ntmps41
  go_wp2_with fail
  refine (setsOf_any rs _ lo hi _ (HV.out.below hb hh) (by simp; omega)).mono ?_
  rintro e w1 ⟨x, rfl, SG, b1⟩
  have hb1 := hb.trans (b1.mono (by simp))
  have hs1 := hb1.size
  have R1 := R0.below b1 (by simp)
  have hl1 := R1.lt
  have HR1 := Lib.hid R1
  obtain ⟨A2, c2, B2, d2, rfl, -, hR⟩ := SG.form
  obtain ⟨B', d', e', hlc, hc, hcell⟩ := hR
  injection e' with e1 _ e2
  subst e1 e2
  unfold maxLen at hc
  have HC := Lib.hid hcell
  clear hcell SG b1 R0 R1 hb
  cases hq : gramB rs
  · have HE := Lib.hid (undef_f hq)
    have hl : (rlOf rs).length = 0 := by rw [rlOf_f hq]; rfl
    rw [hl] at hlc ⊢
    have hfd := field_rules2 A2 B2 (headsOf rs).length c2 0 d2
    clear hl hq
    go_wp2
    go_loop [3, 4, 5, 6, 11] (fun _ _ _ _ i => i = .int .i64 0) (fun _ _ _ _ _ => 0)
    case atStart => exact rfl
    case round =>
      obtain rfl := hrel
      go_wp2
      go_ret
      exact ⟨ret_str HE.out.symm, hb1⟩
  · have HQ := Lib.hid hq
    have RT := Lib.hid (Rt.of hq)
    have hl20 := RT.out.few
    have hl : (rlOf rs).length = rs.length := by rw [rlOf_t hq, rnl_len, List.length_range]
    have HAT : Hid (∀ j (h : j < (rlOf rs).length), (rlOf rs)[j] = rn rs j) := Lib.hid fun j h => by
      have : (rlOf rs)[j]? = some (rn rs j) := by
        rw [hl] at h
        rw [rlOf_t hq]
        simp [rnl, h]
      rw [List.getElem?_eq_getElem h] at this
      injection this
    rw [hl] at hlc ⊢
    have HL := Lib.hid hl
    have hfd := field_rules2 A2 B2 (headsOf rs).length c2 rs.length d2
    clear hl hq
    go_wp2
    go_loopw [3, 4, 5, 6, 11] (fun _ _ _ _ i wr => ∃ j : Nat, j ≤ rs.length ∧ i = .int .i64 (j : Int) ∧ (∀ i (hi : i < rs.length), i < j → ∀ s ∈ rs[i].body, undB rs s = false) ∧ Below w1.heap.size w1 wr) (fun _ _ _ _ i _ => rs.length - (intOf i).toNat)
    case atStart => exact ⟨0, by omega, rfl, fun _ _ h => by omega, Below.refl _ _⟩
    case round =>
      obtain ⟨j, hj, rfl, hall, hbw⟩ := hrel
      have HALL := Lib.hid hall
      rename World => wo
      clear hall
      have hsw := hbw.size
      by_cases hlt : j < rs.length
      · obtain ⟨b, off, rfl, hbh, hcc⟩ := HC.out (by rw [HL.out]; omega)
        obtain ⟨hn, hhh, d0, d1, u, d2, hB⟩ := hcc j (by rw [HL.out]; exact hlt)
        rw [HAT.out j (by rw [HL.out]; exact hlt)] at hn hhh d0 d1 hB
        rw [rn_body hlt] at hB
        have d0' := (hbw.cell (p := ⟨b, off + j * 3, none⟩) (by show b < _; omega)).trans d0
        have d1' := (hbw.cell (p := ⟨b, off + j * 3 + 1, none⟩) (by show b < _; omega)).trans d1
        have d2' := (hbw.cell (p := ⟨b, off + j * 3 + 2, none⟩) (by show b < _; omega)).trans d2
        have hB' := hB.below hbw (by omega)
        clear hcc d0 d1 d2 hB
        obtain ⟨A', c', rfl, hlc', hcm', hbz, hbc⟩ := hB'
        rw [List.length_map] at hlc'
        have hlm : (rs[j].body.map (setN (hsOf rs))).length = rs[j].body.length := List.length_map _
        rw [hlm] at d2'
        unfold maxLen at hcm'
        have HBC := Lib.hid hbc
        have hbl := RT.out.len j hlt
        clear hbc hlm
        have ha := al1 wo (.cells #[.int .i64 ((rn rs j).num : Int), .int .u32 ((rn rs j).head : Int), .slice A' rs[j].body.length c'] 121)
        have hbA := hbw.trans (ha.mono hsw)
        have hb2 := hb1.trans (hbA.mono hs1)
        have cG := (HR1.out.below hbA hl1).cell 0
        simp at cG
        obtain ⟨gb, goff, rfl, _, hgh, hgc⟩ := HC0.out (by omega)
        obtain ⟨hhs, g0, ug, g1, hgst⟩ := hgc j hlt
        have g1' := (hb2.cell (p := ⟨gb, goff + j * 2 + 1, none⟩) (by show gb < _; omega)).trans g1
        have hgst' := hgst.below hb2 hh
        obtain ⟨A3, c3, rfl, hlc3, hcm3, hsz3, hcell3⟩ := hgst'
        unfold maxLen at hcm3
        have HC3 := Lib.hid hcell3
        have HB2 := Lib.hid hb2
        have HBA := Lib.hid hbA
        clear hgc g0 g1 hgst hcell3 hb2 hbA
        go_wp2
        generalize wo.alloc (.cells #[.int .i64 ((rn rs j).num : Int), .int .u32 ((rn rs j).head : Int), .slice A' rs[j].body.length c'] 121) = wA at *
        have bA := HBA.out
        have bB := HB2.out
        have bAs := bA.size
        have aS := ha.size
        go_loop [5, 6, 19] (fun _ _ i => ∃ k : Nat, k ≤ rs[j].body.length ∧ i = .int .i64 (k : Int) ∧ ∀ m (hm : m < rs[j].body.length), m < k → undB rs rs[j].body[m] = false) (fun _ _ i => rs[j].body.length - (intOf i).toNat)
        case atStart => exact ⟨0, by omega, rfl, fun _ _ h => by omega⟩
        case round =>
          obtain ⟨k, hk, rfl, hin⟩ := hrel
          have HIN := Lib.hid hin
          clear hin
          by_cases hkl : k < rs[j].body.length
          · obtain ⟨b1, off1, rfl, hbh1, hcc1⟩ := HBC.out (by rw [List.length_map]; omega)
            have hck := (ha.cell (p := ⟨b1, off1 + k, none⟩) (by show b1 < _; omega)).trans (hcc1 k (by rw [List.length_map]; exact hkl))
            rw [List.getElem_map] at hck
            clear hcc1
            have HU := Lib.hid (RT.out.und_idx (RT.out.body j hlt _ (List.getElem_mem hkl)))
            have hsn := RT.out.setN_lt rs[j].body[k]
            have hs4 := symOK_size (RT.out.body j hlt _ (List.getElem_mem hkl))
            by_cases hx : setN (hsOf rs) rs[j].body[k] = 2097152
            · obtain ⟨b4, off4, rfl, _, hbh4, hcc4⟩ := HC3.out (by omega)
              have h4 := hcc4 k hkl
              rw [hx] at hck
              clear hcc4
              go_wp2_with fail
              refine (clone_any rs[j].body[k] _ (by omega)).mono ?_
              rintro e w3 ⟨rfl, b3⟩
              go_wp2
              go_ret
              exact ⟨ret_str (undef_hit HQ.out hlt hkl HALL.out HIN.out (by rw [HU.out, hx]; rfl)).symm, bB.trans (b3.mono bB.size)⟩
            · have d1 : (((setN (hsOf rs) rs[j].body[k] : Nat) : Int) == 2097152) = false := by rw [beq_eq_false_iff_ne]; omega
              have HX := Lib.hid hx
              clear hx
              go_wp2
              go_round
              case rel => exact ⟨k + 1, by omega, by go_num, fun m hm hmk => by
                by_cases e : m = k
                · subst e; rw [HU.out]; exact decide_eq_false HX.out
                · exact HIN.out m hm (by omega)⟩
              case measure => simp [intOf]; omega
          · go_wp2
            go_roundw
            case rel => exact ⟨j + 1, by omega, by go_num, fun i hi hij s hs => by
              by_cases e : i = j
              · subst e
                obtain ⟨m, hm, rfl⟩ := List.getElem_of_mem hs
                exact HIN.out m hm (by omega)
              · exact HALL.out i hi (by omega) s hs, bA⟩
            case measure => simp [intOf]; omega
      · go_wp2
        go_ret
        exact ⟨ret_str (undef_none fun i hi s hs => HALL.out i hi (by omega) s hs).symm, hb1.trans (hbw.mono hs1)⟩
end Go.Proofs.Ytcgmnpfeiiomgaa
