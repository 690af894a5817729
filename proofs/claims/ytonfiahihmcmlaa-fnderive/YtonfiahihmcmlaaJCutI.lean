import Derived.Test.YtonfiahihmcmlaaJRightb
import Derived.Test.YtonfiahihmcmlaaJTxt
import Derived.Test.YtonfiahihmcmlaaJTo
import Derived.Laws.CopyOwn
import Derived.Lib.BufferWrite
import Derived.Lib.OthersKept
import Derived.Deep.OwnRows
import Derived.WalkKit
import Derived.Laws.BytesArg
/- The walks of the model's l02In, l02Heads and Heads. -/
namespace Go.Proofs.Ytonfiahihmcmlaa
open Go.RowKit

theorem list_eqH (a b : ByteArray) : (a.toList == b.toList) = decide (a = b) := by
  rw [Bool.eq_iff_iff]; simp only [beq_iff_eq, decide_eq_true_eq]
  constructor
  · intro h
    apply ByteArray.ext
    apply Array.ext'
    simpa [ByteArray.toList_eq] using h
  · rintro rfl; rfl
/-- texts in a row of the call's own -/
def Sts (w : World) (base : Nat) (v : Value) (ss : List ByteArray) : Prop := w.ownsRow base 9 1 v ss.length (ss.map Value.string)
theorem Sts.nil (w : World) {base : Nat} (hb : base ≤ w.heap.size) : Sts (w.alloc (.cells #[] 9)) base (.slice (some ⟨w.heap.size, 0, none⟩) 0 0) [] := World.ownsRow_lit w #[] 0 hb (by unfold maxLen; omega) rfl
theorem Sts.one {w : World} {base : Nat} {v : Value} {ss : List ByteArray} (s : ByteArray) (h : w.ownsRow base 9 1 v (ss.length + 1) (ss.map Value.string ++ [.string s])) : Sts w base v (ss ++ [s]) := by
  unfold Sts
  rw [List.length_append, List.map_append]
  exact h
theorem Sts.own {w : World} {base : Nat} {v : Value} {ss : List ByteArray} (h : Sts w base v ss) (hz : ∀ s ∈ ss, s.size ≤ maxLen) : ∃ g, OwnS w g v ss ∧ (ss ≠ [] → base ≤ g ∧ g < w.heap.size) := by
  rcases h.2 with ⟨rfl, h0⟩ | ⟨g, cap, cur, rfl, hb, hh, hc, hm, hs, ht⟩
  · obtain rfl : ss = [] := List.eq_nil_of_length_eq_zero h0
    exact ⟨0, OwnS.nil w 0, fun hn => absurd rfl hn⟩
  · have hr : Row w g 9 cur := hh
    refine ⟨g, ⟨_, cap, rfl, hc, hm, hz, fun _ => ⟨0, cur, rfl, hr, fun i hi => ?_⟩⟩, fun _ => ⟨hb, hr.lt⟩⟩
    have h1 : (cur.toList.take (ss.length * 1))[i]? = some (.string ss[i]) := by rw [ht, List.getElem?_map, List.getElem?_eq_getElem hi]; rfl
    rw [List.getElem?_take_of_lt (by omega)] at h1
    rw [Nat.zero_add, ← Array.getElem?_toList]
    exact h1
theorem Sts.strs {w : World} {base : Nat} {v : Value} {ss : List ByteArray} (h : Sts w base v ss) (hz : ∀ s ∈ ss, s.size ≤ maxLen) : Strs w base w.heap.size v ss := by
  obtain ⟨g, ho, hg⟩ := h.own hz
  exact ho.strs hg
theorem one_str (s : ByteArray) : ∀ u ∈ [Value.string s], u.oneCell' = true := by
  intro u hu
  rw [List.mem_singleton] at hu; subst hu; rfl
theorem inB_t {ss : List ByteArray} {s : ByteArray} {k : Nat} (h : k < ss.length) (e : ss[k] = s) : inB ss s = true := (inB_iff _ _).2 (e ▸ List.getElem_mem h)
theorem inB_f {ss : List ByteArray} {s : ByteArray} (h : ∀ i (h : i < ss.length), ss[i] ≠ s) : inB ss s = false := by
  rw [Bool.eq_false_iff]
  intro e
  obtain ⟨i, hi, e2⟩ := List.getElem_of_mem ((inB_iff _ _).1 e)
  exact h i hi e2

set_option maxHeartbeats 1000000 in
theorem specIn_any (v : Value) (ss : List ByteArray) (s : ByteArray) (lo hi : Nat) (w : World) (h : Strs w lo hi v ss) :
    Calls Try.prog 84 #[v, .string s] w fun e w' => e = .returned (.bool (inB ss s)) ∧ w = w' := by
  obtain ⟨A, c, rfl, hlc, hc, hsz, hcell⟩ := h
  unfold maxLen at hc
  have HC := Lib.hid hcell
  clear hcell hsz
  go_enter Try.func84, Try.ntmps84
  go_wp2
  go_loop [5] (fun i => ∃ k : Nat, k ≤ ss.length ∧ i = .int .i64 k ∧ ∀ j (h : j < ss.length), j < k → ss[j] ≠ s) (fun i => ss.length - (intOf i).toNat)
  case atStart => exact ⟨0, by omega, rfl, fun j _ hj => by omega⟩
  case round =>
    obtain ⟨k, hk, rfl, hall⟩ := hrel
    have HA := Lib.hid hall
    clear hall
    by_cases hlt : k < ss.length
    · obtain ⟨b, off, rfl, _, _, hcc⟩ := HC.out (by omega)
      have hck := hcc k hlt
      clear hcc
      by_cases he : ss[k] = s
      · have d1 : (ss[k].toList == s.toList) = true := by rw [list_eqH, decide_eq_true he]
        have HE := Lib.hid he
        clear he
        go_wp2
        go_ret
        exact ⟨ret_bool (inB_t hlt HE.out).symm, rfl⟩
      · have d1 : (ss[k].toList == s.toList) = false := by rw [list_eqH, decide_eq_false he]
        go_wp2
        go_round
        case rel => exact ⟨k + 1, by omega, by go_num, fun j hj hjk => by
          by_cases e : j = k
          · subst e; exact he
          · exact HA.out j hj (by omega)⟩
        case measure => simp [intOf]; omega
    · go_wp2
      go_ret
      exact ⟨ret_bool (inB_f fun i hi => HA.out i hi (by omega)).symm, rfl⟩

set_option maxRecDepth 100000 in
set_option maxHeartbeats 2000000 in
theorem specHeadsOf_any (rs : List RuleD) (v : Value) (lo hi : Nat) (w : World) (h : Rules w lo hi v rs) (hh : hi ≤ w.heap.size) (hl20 : rs.length ≤ 1000) :
    Calls Try.prog 83 #[.agg #[v]] w (MadeS w (headsTo rs rs.length)) := by
  obtain ⟨i0, hi0, hz0, hz1, hz2⟩ := info_parts Try.infoStr
  obtain ⟨A, c, rfl, hlc, hc, hcell⟩ := h
  unfold maxLen at hc
  have hsz : ∀ k s, s ∈ headsTo rs k → s.size ≤ maxLen := fun k s hs => by
    obtain ⟨i, hi, rfl⟩ := headsTo_mem hs
    obtain ⟨_, _, _, _, _, hcc⟩ := hcell (by omega)
    exact (hcc i hi).1
  have HC := Lib.hid hcell
  have HZ := Lib.hid hsz
  clear hcell hsz
  go_enter Try.func83, Try.ntmps83
  go_wp2
  go_loopw [3, 4] (fun x i wr => ∃ (k : Nat), k ≤ rs.length ∧ i = .int .i64 k ∧ Sts wr (w.heap.size + 1) x (headsTo rs k) ∧ Row wr w.heap.size 25 #[.slice A rs.length c] ∧ Below w.heap.size w wr) (fun _ i _ => rs.length - (intOf i).toNat)
  case atStart => exact ⟨0, by omega, rfl, by simpa [headsTo] using Sts.nil (w.alloc (.cells #[.slice A rs.length c] 25)) (base := w.heap.size + 1) (by simp), (Row.made _ _ _).alloc _, al2 _ _ _⟩
  case round =>
    obtain ⟨k, hk, rfl, hsts, hrow, hbw⟩ := hrel
    have hsw := hbw.size
    have hc0 := hrow.cell 0
    simp at hc0
    have hwl := hrow.lt
    have HW := Lib.hid hrow
    have hln := headsTo_len rs k
    clear hrow
    by_cases hlt : k < rs.length
    · obtain ⟨b, off, rfl, _, hbh, hcc⟩ := HC.out (by omega)
      obtain ⟨hhs, hd0, u, hd1, hst⟩ := hcc k hlt
      have hd0' := (hbw.cell (p := ⟨b, off + k * 2, none⟩) (by show b < _; omega)).trans hd0
      have HSU := Lib.hid (headsTo_succ hlt)
      clear hcc hd0 hd1 hst
      cases hin : inB (headsTo rs k) rs[k].head
      · have HI := Lib.hid hin
        have HA := Lib.hid (addSym_out hin)
        clear hin
        go_wp2_with fail
        refine (specIn_any _ (headsTo rs k) rs[k].head _ _ _ (hsts.strs (HZ.out k))).mono ?_
        rintro e w1 ⟨rfl, rfl⟩
        rw [HI.out]
        go_wp2_with (at_builtin; refine wpList_append_own _ rfl _ _ 34 rfl (w.heap.size + 1) 9 i0 (.string ByteArray.empty) 1 16 Try.underlying34 hi0 hz0 hz1 hz2 rfl (by decide) _ _ _ rfl (World.ownsRow.alloc hsts _) ⟨wr.heap.size, 0, none⟩ 1 1 [.string rs[k].head] rfl rfl (cell_one_new _ _ _) (one_str _) (by unfold maxLen; omega) (by omega) (by simp; omega) ?_)
        intro v1 w1 hown1 hg1 _
        have s1 : Sts w1 (w.heap.size + 1) v1 (headsTo rs (k + 1)) := by
          rw [HSU.out, HA.out]
          exact Sts.one _ hown1
        have q1 := Tx.row_grown (HW.out.alloc _) (World.ownsRow.alloc hsts _) (by decide) hg1
        have hb1 : Below w.heap.size w w1 := Tx.below_grown (hbw.trans ((al1 wr _).mono hsw)) (World.ownsRow.alloc hsts _) hg1 (by simp; omega) (by omega)
        clear hown1 hg1 hsts
        go_wp2
        go_roundw
        case rel => exact ⟨k + 1, by omega, by go_num, s1, q1, hb1⟩
        case measure => simp [intOf]; omega
      · have HI := Lib.hid hin
        have HA := Lib.hid (addSym_in hin)
        clear hin
        go_wp2_with fail
        refine (specIn_any _ (headsTo rs k) rs[k].head _ _ _ (hsts.strs (HZ.out k))).mono ?_
        rintro e w1 ⟨rfl, rfl⟩
        rw [HI.out]
        go_wp2
        go_roundw
        case rel => exact ⟨k + 1, by omega, by go_num, by rw [HSU.out, HA.out]; exact hsts, HW.out, hbw⟩
        case measure => simp [intOf]; omega
    · have hks : k = rs.length := by omega
      subst hks
      obtain ⟨g, ho, hg⟩ := hsts.own (HZ.out _)
      clear hsts
      go_wp2
      go_ret
      exact ⟨_, g, rfl, ho, fun hn => by have := hg hn; omega, hbw⟩
end Go.Proofs.Ytonfiahihmcmlaa

/- The walks of l01Split, cutText and cutAt: both cut a text into the same pieces. -/
namespace Go.Proofs.Ytonfiahihmcmlaa
open Go.RowKit
open Tx (Bts bv bs)

/-- the pieces of a text -/
def pieces (m : UInt8) (t : ByteArray) : List ByteArray := (splitB m t.data.toList).map bs
theorem pieces_len (m : UInt8) (t : ByteArray) : (pieces m t).length ≤ t.size + 1 := by
  unfold pieces; rw [List.length_map]; exact splitB_len m t.data.toList
/-- where a cut stands: these pieces are laid, from there on up to here nothing is cut -/
def CutAt (m : UInt8) (t : ByteArray) (out : List ByteArray) (from_ i : Nat) : Prop :=
  from_ ≤ i ∧ i ≤ t.size ∧ (out.map fun s => s.data.toList) ++ splitGo m ((t.data.toList.take i).drop from_) (t.data.toList.drop i) = splitB m t.data.toList
theorem CutAt.start (m : UInt8) (t : ByteArray) : CutAt m t [] 0 0 := ⟨Nat.le_refl _, Nat.zero_le _, by simp [splitB]⟩
theorem drop_at {t : ByteArray} {i : Nat} (h : i < t.size) : t.data.toList.drop i = t[i] :: t.data.toList.drop (i + 1) := by
  rw [List.drop_eq_getElem_cons (by simpa using h)]; rfl
theorem take_at {t : ByteArray} {f i : Nat} (h : i < t.size) (hf : f ≤ i) : (t.data.toList.take (i + 1)).drop f = (t.data.toList.take i).drop f ++ [t[i]] := by
  rw [List.take_succ_eq_append_getElem (by simpa using h), List.drop_append_of_le_length (by simp; omega)]; rfl
theorem CutAt.miss {m : UInt8} {t : ByteArray} {out : List ByteArray} {f i : Nat} (h : CutAt m t out f i) (hi : i < t.size) (hne : t[i] ≠ m) : CutAt m t out f (i + 1) := by
  obtain ⟨h1, h2, h3⟩ := h
  refine ⟨by omega, by omega, ?_⟩
  rw [← h3, drop_at hi, splitGo_miss hne, take_at hi h1]
theorem piece_at (t : ByteArray) (f i : Nat) : (t.extract f i).data.toList = (t.data.toList.take i).drop f := by
  simp [ByteArray.data_extract, List.extract_eq_take_drop, List.drop_take]
theorem CutAt.hit {m : UInt8} {t : ByteArray} {out : List ByteArray} {f i : Nat} (h : CutAt m t out f i) (hi : i < t.size) (he : t[i] = m) : CutAt m t (out ++ [t.extract f i]) (i + 1) (i + 1) := by
  obtain ⟨h1, h2, h3⟩ := h
  refine ⟨Nat.le_refl _, by omega, ?_⟩
  rw [← h3, drop_at hi, he, splitGo_hit, List.map_append]
  simp only [List.map_cons, List.map_nil, piece_at]
  have e : (t.data.toList.take (i + 1)).drop (i + 1) = [] := List.drop_eq_nil_of_le (List.length_take_le _ _)
  rw [e, List.append_assoc]
  rfl
theorem CutAt.done {m : UInt8} {t : ByteArray} {out : List ByteArray} {f : Nat} (h : CutAt m t out f t.size) : out ++ [t.extract f t.size] = pieces m t := by
  obtain ⟨h1, h2, h3⟩ := h
  have e1 : t.data.toList.drop t.size = [] := List.drop_eq_nil_of_le (by show t.data.toList.length ≤ t.size; exact Nat.le_refl _)
  rw [e1] at h3
  unfold pieces
  rw [← h3, List.map_append, List.map_map]
  have e2 : out.map (bs ∘ fun s => s.data.toList) = out := by
    conv => rhs; rw [← List.map_id out]
    rfl
  rw [e2]
  simp only [splitGo, List.map_cons, List.map_nil]
  rw [← piece_at]
  rfl
theorem CutAt.len {m : UInt8} {t : ByteArray} {out : List ByteArray} {f i : Nat} (h : CutAt m t out f i) : out.length ≤ t.size := by
  obtain ⟨h1, h2, h3⟩ := h
  have h4 := congrArg List.length h3
  have h5 := splitB_len m t.data.toList
  have h6 := List.length_pos_iff.2 (splitGo_ne m ((t.data.toList.take i).drop f) (t.data.toList.drop i))
  rw [List.length_append, List.length_map] at h4
  have h7 : t.data.toList.length = t.size := rfl
  omega
theorem CutAt.size {m : UInt8} {t : ByteArray} {out : List ByteArray} {f i : Nat} (h : CutAt m t out f i) : f ≤ i ∧ i ≤ t.size := ⟨h.1, h.2.1⟩
theorem ext_size (t : ByteArray) (f i : Nat) : (t.extract f i).size ≤ t.size := by rw [ByteArray.size_extract]; omega

set_option maxRecDepth 100000 in
set_option maxHeartbeats 2000000 in
theorem specSplit_any (t : ByteArray) (m : UInt8) (w : World) (ht : t.size ≤ 1000000) :
    Calls Try.prog 78 #[.string t, .int .u8 (m.toNat : Int)] w fun e w' => ∃ v, e = .returned v ∧ Sts w' w.heap.size v (pieces m t) ∧ Below w.heap.size w w' := by
  obtain ⟨i0, hi0, hz0, hz1, hz2⟩ := info_parts Try.infoStr
  go_enter Try.func78, Try.ntmps78
  go_wp2
  go_loopw [5, 6, 7] (fun x f i wr => ∃ (n k : Nat) (out : List ByteArray), f = .int .i64 (n : Int) ∧ i = .int .i64 (k : Int) ∧ CutAt m t out n k ∧ Sts wr w.heap.size x out ∧ Below w.heap.size w wr) (fun _ _ i _ => t.size - (intOf i).toNat)
  case atStart => exact ⟨0, 0, [], rfl, rfl, CutAt.start m t, Sts.nil w (Nat.le_refl _), al1 _ _⟩
  case round =>
    obtain ⟨n, k, out, rfl, rfl, hcut, hsts, hbw⟩ := hrel
    obtain ⟨hnk, hkt⟩ := hcut.size
    have hol := hcut.len
    have hsw := hbw.size
    by_cases hlt : k < t.size
    · by_cases he : t[k] = m
      · have HC := Lib.hid (hcut.hit hlt he)
        have d1 : ((t[k].toNat : Int) == (m.toNat : Int)) = true := by rw [he]; simp
        clear hcut he
        go_wp2_with (at_builtin; refine wpList_append_own _ rfl _ _ 34 rfl w.heap.size 9 i0 (.string ByteArray.empty) 1 16 Try.underlying34 hi0 hz0 hz1 hz2 rfl (by decide) _ _ _ rfl (World.ownsRow.alloc hsts _) ⟨wr.heap.size, 0, none⟩ 1 1 [.string (t.extract n k)] rfl rfl (cell_one_new _ _ _) (one_str _) (by unfold maxLen; omega) (by omega) (by simp; omega) ?_)
        intro v1 w1 hown1 hg1 _
        have s1 : Sts w1 w.heap.size v1 (out ++ [t.extract n k]) := Sts.one _ hown1
        have hb1 : Below w.heap.size w w1 := Tx.below_grown (hbw.trans ((al1 wr _).mono hsw)) (World.ownsRow.alloc hsts _) hg1 (by simp; omega) (Nat.le_refl _)
        clear hown1 hg1 hsts
        go_wp2
        go_roundw
        case rel => exact ⟨k + 1, k + 1, _, by go_num, by go_num, HC.out, s1, hb1⟩
        case measure => simp [intOf]; omega
      · have HC := Lib.hid (hcut.miss hlt he)
        have d1 : ((t[k].toNat : Int) == (m.toNat : Int)) = false := by
          rw [beq_eq_false_iff_ne]
          intro e
          exact he (UInt8.toNat_inj.1 (by omega))
        clear hcut he
        go_wp2
        go_roundw
        case rel => exact ⟨n, k + 1, out, rfl, by go_num, HC.out, hsts, hbw⟩
        case measure => simp [intOf]; omega
    · have hks : k = t.size := by omega
      subst hks
      have HD := Lib.hid hcut.done
      clear hcut
      go_wp2_with (at_builtin; refine wpList_append_own _ rfl _ _ 34 rfl w.heap.size 9 i0 (.string ByteArray.empty) 1 16 Try.underlying34 hi0 hz0 hz1 hz2 rfl (by decide) _ _ _ rfl (World.ownsRow.alloc hsts _) ⟨wr.heap.size, 0, none⟩ 1 1 [.string (t.extract n t.size)] rfl rfl (cell_one_new _ _ _) (one_str _) (by unfold maxLen; omega) (by omega) (by simp; omega) ?_)
      intro v1 w1 hown1 hg1 _
      have s1 : Sts w1 w.heap.size v1 (pieces m t) := by
        rw [← HD.out]
        exact Sts.one _ hown1
      have hb1 : Below w.heap.size w w1 := Tx.below_grown (hbw.trans ((al1 wr _).mono hsw)) (World.ownsRow.alloc hsts _) hg1 (by simp; omega) (Nat.le_refl _)
      clear hown1 hg1 hsts
      go_wp2
      go_ret
      exact ⟨_, rfl, s1, hb1⟩
end Go.Proofs.Ytonfiahihmcmlaa

/- The program's cutText and cutAt. -/
namespace Go.Proofs.Ytonfiahihmcmlaa.Tx
open Go.RowKit

theorem wpList_copy_str {P : Program} {w : World} {ops : Array Oper} {rest : List Oper} {o : Oper} {a : Act} {Q : Exit → Act → World → Prop} (hgd : o.guard = none) (d s : Operand) (dT sT : TypeId)
    (ho : o.op = .call { callee := .builtin .copy, args := #[d, s], argTypes := #[dT, sT] }) (elem : TypeId) (hu : P.underlying dT = some (.slice elem)) (hsz : (P.info? elem).map (·.size) = some 1)
    (dp : Option Addr) (dLen dCap : Nat) (t : ByteArray) (hd : a.eval d = .slice dp dLen dCap) (hs : a.eval s = .string t)
    (g off : Nat) (cur : List Value) (ty : TypeId) (hg : w.heap[g]? = some (.cells cur.toArray ty (0, 0))) (hle : t.size ≤ dLen)
    (hpos : 0 < t.size → dp = some ⟨g, off, none⟩) (hfit : off + t.size ≤ cur.length) (B : Nat) (w0 : World) (hb : Below B w0 w) (hBg : B ≤ g)
    (h : ∀ w', Hid (w'.heap[g]? = some (.cells (splice cur off (t.data.toList.map bv)).toArray ty (0, 0))) → Below B w0 w' → wpList P ops Q rest (a.put o.dst (goInt t.size)) w') :
    wpList P ops Q (o :: rest) a w := by
  have hlen : (t.data.toList.map bv).length = t.size := by rw [List.length_map]; rfl
  refine wpList_plain hgd fun K hK => ?_
  by_cases h0 : t.size = 0
  · have hrun := Lib.run_copy_empty_string (P := P) w dT sT o.type elem dp dLen dCap t hu (by cases hq : P.info? elem <;> simp [hq] at hsz ⊢) h0
    unfold Oper.wp
    simp [execOp, ho, resolve, invoke, builtin, hd, hs, hrun, Result.andThen]
    have hnil : t.data.toList.map bv = [] := List.eq_nil_of_length_eq_zero (by rw [hlen]; exact h0)
    have h1 := h w (show _ = _ by rw [hnil]; simpa [splice] using hg) hb
    rw [h0] at h1
    exact hK _ _ h1
  · obtain rfl := hpos (by omega)
    have hrun := Lib.run_copy_row_string (P := P) w dT sT o.type elem g off dLen dCap t cur.toArray ty hu hsz hg hle (by simpa using hfit)
    unfold Oper.wp
    simp [execOp, ho, resolve, invoke, builtin, hd, hs, hrun, Result.andThen]
    refine hK _ _ (h _ ?_ (below_setRow hb hBg _))
    show _ = _
    rw [setRow_heap w g _ _ ty _ hg]
    simp [splice, Lib.byteCells, bv]

theorem splice_whole {α : Type} (Z X : List α) (hZ : Z.length = X.length) : splice Z 0 X = X := by
  simp [splice, List.drop_eq_nil_of_le, hZ]
theorem sizeB : (Try.prog.info? 5).map (·.size) = some 1 := by kernel_rfl
theorem madeList (n : Nat) : madeCells #[Value.int .u8 0] n = (List.replicate n (Value.int .u8 0)).toArray := by
  have := toList_madeCells_one (.int .u8 0) n
  rw [← this]
theorem join_str {w : World} {g n : Nat} {L : List Value} (t : ByteArray) (hT : Hid (L = t.data.toList.map bv)) (hC : Hid (t.data.toList.length = n)) (hg : Hid (w.heap[g]? = some (.cells L.toArray 5 (0, 0)))) (hn : n ≤ 9223372036854775807) :
    (convert 22 9 (.slice (some ⟨g, 0, none⟩) n n)).run Try.prog w = .ok (.string t) w := by
  have h := hg.out
  rw [hT.out] at h
  have h2 : Bts w 0 (.slice (some ⟨g, 0, none⟩) n n) t.data.toList := by
    unfold Bts
    refine ⟨by simp, .inr ⟨g, n, _, by rw [hC.out], Nat.zero_le _, h, by rw [hC.out]; exact Nat.le_refl _, by unfold maxLen; omega, by simp only [List.size_toArray, List.length_map, Nat.mul_one]; exact hC.out, ?_⟩⟩
    simp only [Nat.mul_one]
    exact List.take_of_length_le (by simp)
  exact h2.conv

set_option maxRecDepth 100000 in
set_option maxHeartbeats 1000000 in
theorem cutText_any (s : ByteArray) (i j : Nat) (w : World) (hs : s.size ≤ 1000000) (hij : i ≤ j) (hj : j ≤ s.size) :
    Calls Try.prog 158 #[.string s, .int .i64 (i : Int), .int .i64 (j : Int)] w fun e w' => e = .returned (.string (s.extract i j)) ∧ Below w.heap.size w w' := by
  have hmk := run_make_row' (P := Try.prog) 22 5 (.int .u8 0) 1 Try.underlying22 infoB rfl .i64 .i64 (j - i) (by omega) (by omega)
  rw [show ((j - i : Nat) : Int) = (j : Int) - (i : Int) by omega] at hmk
  have he : (s.extract i j).size = j - i := by rw [ByteArray.size_extract]; omega
  have HE := Lib.hid he
  have HML := Lib.hid (madeList (j - i))
  have HL : Hid (((s.extract i j).data.toList.map bv).length = j - i) := Lib.hid (by rw [List.length_map]; exact he)
  have HT : Hid (splice (List.replicate (j - i) (Value.int .u8 0)) 0 ((s.extract i j).data.toList.map bv) = (s.extract i j).data.toList.map bv) := Lib.hid (splice_whole _ _ (by rw [HL.out]; simp))
  have HC : Hid ((s.extract i j).data.toList.length = j - i) := Lib.hid he
  clear he
  go_enter Try.func158, Try.ntmps158
  go_wp2_with (with_reducible refine wpList_copy_str (o := ⟨some 17, _, _, _, _, _⟩) rfl (.tmp 12) (.tmp 16) 22 9 rfl 5 Try.underlying22 sizeB _ _ _ (s.extract i j) rfl rfl w.heap.size 0 (List.replicate (j - i) (.int .u8 0)) 5 (by rw [HML.out]; exact heap_alloc_new w _) (by rw [HE.out]; exact Nat.le_refl _) (fun _ => rfl) (by rw [HE.out]; simp) w.heap.size w ((Below.refl _ _).alloc (Nat.le_refl _) _) (Nat.le_refl _) ?_; intro w1 hg1 hb1; have hcv := join_str (s.extract i j) HT HC hg1 (by omega))
  go_ret
  exact ⟨rfl, hb1⟩

end Go.Proofs.Ytonfiahihmcmlaa.Tx
