import Derived.Test.YtokdhgocgicdnaaGreatDoorJTo
import Derived.Test.YtokdhgocgicdnaaGreatDoorJHeadsS
import Derived.Laws.CopyOwn
import Derived.Lib.BufferWrite
import Derived.Lib.OthersKept
import Derived.Deep.OwnRows
import Derived.WalkKit
import Derived.Laws.BytesArg
import Derived.Test.YtokdhgocgicdnaaGreatDoorJSplit
/- The walks of l01Split, cutText and cutAt: both cut a text into the same pieces. -/
namespace Go.Proofs.YtokdhgocgicdnaaGreatDoor
open Go.RowKit
open Tx (Bts bv bs)

/-- the pieces of a text -/
def pieces (m : UInt8) (t : ByteArray) : List ByteArray := (splitB m t.data.toList).map bs
theorem pieces_len (m : UInt8) (t : ByteArray) : (pieces m t).length ≤ t.size + 1 := by
  unfold pieces; rw [List.length_map]; exact splitB_len m t.data.toList
/-- where a cut stands: these pieces are laid, from there on up to here nothing is cut -/
def CutAt (m : UInt8) (t : ByteArray) (out : List ByteArray) (from_ i : Nat) : Prop :=
  from_ ≤ i ∧ i ≤ t.size ∧ (out.map fun s => s.data.toList) ++ splitGo m ((t.data.toList.take i).drop from_) (t.data.toList.drop i) = splitB m t.data.toList
theorem CutAt.start (m : UInt8) (t : ByteArray) : CutAt m t [] 0 0 := ⟨Nat.le_refl _, Nat.zero_le _, by simp [splitB]⟩
theorem drop_at {t : ByteArray} {i : Nat} (h : i < t.size) : t.data.toList.drop i = t[i] :: t.data.toList.drop (i + 1) := by
  rw [List.drop_eq_getElem_cons (by simpa using h)]; rfl
theorem take_at {t : ByteArray} {f i : Nat} (h : i < t.size) (hf : f ≤ i) : (t.data.toList.take (i + 1)).drop f = (t.data.toList.take i).drop f ++ [t[i]] := by
  rw [List.take_succ_eq_append_getElem (by simpa using h), List.drop_append_of_le_length (by simp; omega)]; rfl
theorem CutAt.miss {m : UInt8} {t : ByteArray} {out : List ByteArray} {f i : Nat} (h : CutAt m t out f i) (hi : i < t.size) (hne : t[i] ≠ m) : CutAt m t out f (i + 1) := by
  obtain ⟨h1, h2, h3⟩ := h
  refine ⟨by omega, by omega, ?_⟩
  rw [← h3, drop_at hi, splitGo_miss hne, take_at hi h1]
theorem piece_at (t : ByteArray) (f i : Nat) : (t.extract f i).data.toList = (t.data.toList.take i).drop f := by
  simp [ByteArray.data_extract, List.extract_eq_take_drop, List.drop_take]
theorem CutAt.hit {m : UInt8} {t : ByteArray} {out : List ByteArray} {f i : Nat} (h : CutAt m t out f i) (hi : i < t.size) (he : t[i] = m) : CutAt m t (out ++ [t.extract f i]) (i + 1) (i + 1) := by
  obtain ⟨h1, h2, h3⟩ := h
  refine ⟨Nat.le_refl _, by omega, ?_⟩
  rw [← h3, drop_at hi, he, splitGo_hit, List.map_append]
  simp only [List.map_cons, List.map_nil, piece_at]
  have e : (t.data.toList.take (i + 1)).drop (i + 1) = [] := List.drop_eq_nil_of_le (List.length_take_le _ _)
  rw [e, List.append_assoc]
  rfl
theorem CutAt.done {m : UInt8} {t : ByteArray} {out : List ByteArray} {f : Nat} (h : CutAt m t out f t.size) : out ++ [t.extract f t.size] = pieces m t := by
  obtain ⟨h1, h2, h3⟩ := h
  have e1 : t.data.toList.drop t.size = [] := List.drop_eq_nil_of_le (by show t.data.toList.length ≤ t.size; exact Nat.le_refl _)
  rw [e1] at h3
  unfold pieces
  rw [← h3, List.map_append, List.map_map]
  have e2 : out.map (bs ∘ fun s => s.data.toList) = out := by
    conv => rhs; rw [← List.map_id out]
    rfl
  rw [e2]
  simp only [splitGo, List.map_cons, List.map_nil]
  rw [← piece_at]
  rfl
theorem CutAt.len {m : UInt8} {t : ByteArray} {out : List ByteArray} {f i : Nat} (h : CutAt m t out f i) : out.length ≤ t.size := by
  obtain ⟨h1, h2, h3⟩ := h
  have h4 := congrArg List.length h3
  have h5 := splitB_len m t.data.toList
  have h6 := List.length_pos_iff.2 (splitGo_ne m ((t.data.toList.take i).drop f) (t.data.toList.drop i))
  rw [List.length_append, List.length_map] at h4
  have h7 : t.data.toList.length = t.size := rfl
  omega
theorem CutAt.size {m : UInt8} {t : ByteArray} {out : List ByteArray} {f i : Nat} (h : CutAt m t out f i) : f ≤ i ∧ i ≤ t.size := ⟨h.1, h.2.1⟩
theorem ext_size (t : ByteArray) (f i : Nat) : (t.extract f i).size ≤ t.size := by rw [ByteArray.size_extract]; omega

set_option maxRecDepth 100000 in
set_option maxHeartbeats 2000000 in
theorem specSplit_any (t : ByteArray) (m : UInt8) (w : World) (ht : t.size ≤ 1000000) :
    Calls Tryz.prog 80 #[.string t, .int .u8 (m.toNat : Int)] w fun e w' => ∃ v, e = .returned v ∧ Sts w' w.heap.size v (pieces m t) ∧ Below w.heap.size w w' := by
  obtain ⟨i0, hi0, hz0, hz1, hz2⟩ := info_parts Tryz.infoStr
  go_enter Tryz.func80, Tryz.ntmps80
  go_wp2
  go_loopw [5, 6, 7] (fun x f i wr => ∃ (n k : Nat) (out : List ByteArray), f = .int .i64 (n : Int) ∧ i = .int .i64 (k : Int) ∧ CutAt m t out n k ∧ Sts wr w.heap.size x out ∧ Below w.heap.size w wr) (fun _ _ i _ => t.size - (intOf i).toNat)
  case atStart => exact ⟨0, 0, [], rfl, rfl, CutAt.start m t, Sts.nil w (Nat.le_refl _), al1 _ _⟩
  case round =>
    obtain ⟨n, k, out, rfl, rfl, hcut, hsts, hbw⟩ := hrel
    obtain ⟨hnk, hkt⟩ := hcut.size
    have hol := hcut.len
    have hsw := hbw.size
    by_cases hlt : k < t.size
    · by_cases he : t[k] = m
      · have HC := Lib.hid (hcut.hit hlt he)
        have d1 : ((t[k].toNat : Int) == (m.toNat : Int)) = true := by rw [he]; simp
        clear hcut he
        go_wp2_with (at_builtin; refine wpList_append_own _ rfl _ _ 26 rfl w.heap.size 9 i0 (.string ByteArray.empty) 1 16 Tryz.underlying26 hi0 hz0 hz1 hz2 rfl (by decide) _ _ _ rfl (World.ownsRow.alloc hsts _) ⟨wr.heap.size, 0, none⟩ 1 1 [.string (t.extract n k)] rfl rfl (cell_one_new _ _ _) (one_str _) (by unfold maxLen; omega) (by omega) (by simp; omega) ?_)
        intro v1 w1 hown1 hg1 _
        have s1 : Sts w1 w.heap.size v1 (out ++ [t.extract n k]) := Sts.one _ hown1
        have hb1 : Below w.heap.size w w1 := Tx.below_grown (hbw.trans ((al1 wr _).mono hsw)) (World.ownsRow.alloc hsts _) hg1 (by simp; omega) (Nat.le_refl _)
        clear hown1 hg1 hsts
        go_wp2
        go_roundw
        case rel => exact ⟨k + 1, k + 1, _, by go_num, by go_num, HC.out, s1, hb1⟩
        case measure => simp [intOf]; omega
      · have HC := Lib.hid (hcut.miss hlt he)
        have d1 : ((t[k].toNat : Int) == (m.toNat : Int)) = false := by
          rw [beq_eq_false_iff_ne]
          intro e
          exact he (UInt8.toNat_inj.1 (by omega))
        clear hcut he
        go_wp2
        go_roundw
        case rel => exact ⟨n, k + 1, out, rfl, by go_num, HC.out, hsts, hbw⟩
        case measure => simp [intOf]; omega
    · have hks : k = t.size := by omega
      subst hks
      have HD := Lib.hid hcut.done
      clear hcut
      go_wp2_with (at_builtin; refine wpList_append_own _ rfl _ _ 26 rfl w.heap.size 9 i0 (.string ByteArray.empty) 1 16 Tryz.underlying26 hi0 hz0 hz1 hz2 rfl (by decide) _ _ _ rfl (World.ownsRow.alloc hsts _) ⟨wr.heap.size, 0, none⟩ 1 1 [.string (t.extract n t.size)] rfl rfl (cell_one_new _ _ _) (one_str _) (by unfold maxLen; omega) (by omega) (by simp; omega) ?_)
      intro v1 w1 hown1 hg1 _
      have s1 : Sts w1 w.heap.size v1 (pieces m t) := by
        rw [← HD.out]
        exact Sts.one _ hown1
      have hb1 : Below w.heap.size w w1 := Tx.below_grown (hbw.trans ((al1 wr _).mono hsw)) (World.ownsRow.alloc hsts _) hg1 (by simp; omega) (Nat.le_refl _)
      clear hown1 hg1 hsts
      go_wp2
      go_ret
      exact ⟨_, rfl, s1, hb1⟩
end Go.Proofs.YtokdhgocgicdnaaGreatDoor

/- The program's cutText and cutAt. -/
namespace Go.Proofs.YtokdhgocgicdnaaGreatDoor.Tx
open Go.RowKit

theorem wpList_copy_str {P : Program} {w : World} {ops : Array Oper} {rest : List Oper} {o : Oper} {a : Act} {Q : Exit → Act → World → Prop} (hgd : o.guard = none) (d s : Operand) (dT sT : TypeId)
    (ho : o.op = .call { callee := .builtin .copy, args := #[d, s], argTypes := #[dT, sT] }) (elem : TypeId) (hu : P.underlying dT = some (.slice elem)) (hsz : (P.info? elem).map (·.size) = some 1)
    (dp : Option Addr) (dLen dCap : Nat) (t : ByteArray) (hd : a.eval d = .slice dp dLen dCap) (hs : a.eval s = .string t)
    (g off : Nat) (cur : List Value) (ty : TypeId) (hg : w.heap[g]? = some (.cells cur.toArray ty (0, 0))) (hle : t.size ≤ dLen)
    (hpos : 0 < t.size → dp = some ⟨g, off, none⟩) (hfit : off + t.size ≤ cur.length) (B : Nat) (w0 : World) (hb : Below B w0 w) (hBg : B ≤ g)
    (h : ∀ w', Hid (w'.heap[g]? = some (.cells (splice cur off (t.data.toList.map bv)).toArray ty (0, 0))) → Below B w0 w' → wpList P ops Q rest (a.put o.dst (goInt t.size)) w') :
    wpList P ops Q (o :: rest) a w := by
  have hlen : (t.data.toList.map bv).length = t.size := by rw [List.length_map]; rfl
  refine wpList_plain hgd fun K hK => ?_
  by_cases h0 : t.size = 0
  · have hrun := Lib.run_copy_empty_string (P := P) w dT sT o.type elem dp dLen dCap t hu (by cases hq : P.info? elem <;> simp [hq] at hsz ⊢) h0
    unfold Oper.wp
    simp [execOp, ho, resolve, invoke, builtin, hd, hs, hrun, Result.andThen]
    have hnil : t.data.toList.map bv = [] := List.eq_nil_of_length_eq_zero (by rw [hlen]; exact h0)
    have h1 := h w (show _ = _ by rw [hnil]; simpa [splice] using hg) hb
    rw [h0] at h1
    exact hK _ _ h1
  · obtain rfl := hpos (by omega)
    have hrun := Lib.run_copy_row_string (P := P) w dT sT o.type elem g off dLen dCap t cur.toArray ty hu hsz hg hle (by simpa using hfit)
    unfold Oper.wp
    simp [execOp, ho, resolve, invoke, builtin, hd, hs, hrun, Result.andThen]
    refine hK _ _ (h _ ?_ (below_setRow hb hBg _))
    show _ = _
    rw [setRow_heap w g _ _ ty _ hg]
    simp [splice, Lib.byteCells, bv]

theorem splice_whole {α : Type} (Z X : List α) (hZ : Z.length = X.length) : splice Z 0 X = X := by
  simp [splice, List.drop_eq_nil_of_le, hZ]
theorem sizeB : (Tryz.prog.info? 5).map (·.size) = some 1 := by kernel_rfl
theorem madeList (n : Nat) : madeCells #[Value.int .u8 0] n = (List.replicate n (Value.int .u8 0)).toArray := by
  have := toList_madeCells_one (.int .u8 0) n
  rw [← this]
theorem join_str {w : World} {g n : Nat} {L : List Value} (t : ByteArray) (hT : Hid (L = t.data.toList.map bv)) (hC : Hid (t.data.toList.length = n)) (hg : Hid (w.heap[g]? = some (.cells L.toArray 5 (0, 0)))) (hn : n ≤ 9223372036854775807) :
    (convert 22 9 (.slice (some ⟨g, 0, none⟩) n n)).run Tryz.prog w = .ok (.string t) w := by
  have h := hg.out
  rw [hT.out] at h
  have h2 : Bts w 0 (.slice (some ⟨g, 0, none⟩) n n) t.data.toList := by
    unfold Bts
    refine ⟨by simp, .inr ⟨g, n, _, by rw [hC.out], Nat.zero_le _, h, by rw [hC.out]; exact Nat.le_refl _, by unfold maxLen; omega, by simp only [List.size_toArray, List.length_map, Nat.mul_one]; exact hC.out, ?_⟩⟩
    simp only [Nat.mul_one]
    exact List.take_of_length_le (by simp)
  exact h2.conv

end Go.Proofs.YtokdhgocgicdnaaGreatDoor.Tx

/- The program's cutAt: what a range over runes cuts is what a cut at bytes cuts. -/
namespace Go.Proofs.YtokdhgocgicdnaaGreatDoor
open Go.RowKit
open Tx (bs)

/-- behind the first byte of a rune of more than one stand bytes that are no ASCII -/
theorem decode_cont (s : ByteArray) (i k : Nat) (h1 : 1 ≤ k) (h2 : k < (Utf8.decode s i).2) : i + k < s.size ∧ 128 ≤ (s.get! (i + k)).toNat := by
  have c : ∀ j, (decide (i + j < s.size) && (s.get! (i + j)).toNat / 64 == 2) = true → i + j < s.size ∧ 128 ≤ (s.get! (i + j)).toNat := fun j hj => by
    rw [Bool.and_eq_true, decide_eq_true_eq, beq_iff_eq] at hj
    exact ⟨hj.1, by omega⟩
  unfold Utf8.decode at h2
  simp only at h2
  split at h2
  · simp at h2; omega
  · split at h2
    · rename_i hc
      rw [Bool.and_eq_true] at hc
      split at h2
      · simp at h2
        obtain rfl : k = 1 := by omega
        exact c 1 hc.2
      · simp at h2; omega
    · split at h2
      · rename_i hc
        rw [Bool.and_eq_true, Bool.and_eq_true] at hc
        split at h2
        · simp at h2
          have : k = 1 ∨ k = 2 := by omega
          rcases this with rfl | rfl
          · exact c 1 hc.1.2
          · exact c 2 hc.2
        · simp at h2; omega
      · split at h2
        · rename_i hc
          rw [Bool.and_eq_true, Bool.and_eq_true, Bool.and_eq_true] at hc
          split at h2
          · simp at h2
            have : k = 1 ∨ k = 2 ∨ k = 3 := by omega
            rcases this with rfl | rfl | rfl
            · exact c 1 hc.1.1.2
            · exact c 2 hc.1.2
            · exact c 3 hc.2
          · simp at h2; omega
        · simp at h2; omega
theorem get_is {s : ByteArray} {i : Nat} (h : i < s.size) : s.get! i = s[i] := by
  simp [ByteArray.get!, getElem!_pos, h]
  rfl
theorem CutAt.skip {m : UInt8} {t : ByteArray} {out : List ByteArray} {f i : Nat} (h : CutAt m t out f i) (n : Nat) (hn : ∀ j, j < n → ∃ h : i + j < t.size, t[i + j] ≠ m) : CutAt m t out f (i + n) := by
  induction n with
  | zero => exact h
  | succ n ih =>
    obtain ⟨h1, h2⟩ := hn n (by omega)
    have := (ih (fun j hj => hn j (by omega))).miss h1 h2
    rwa [Nat.add_assoc] at this
/-- a rune that is no ASCII is no mark, and holds none -/
theorem CutAt.rune {m : UInt8} {t : ByteArray} {out : List ByteArray} {f i : Nat} (h : CutAt m t out f i) (hm : m.toNat < 128) (hi : i < t.size) (hh : 128 ≤ t[i].toNat) : CutAt m t out f (i + (Utf8.decode t i).2) := by
  refine h.skip _ fun j hj => ?_
  rcases Nat.eq_zero_or_pos j with rfl | hp
  · exact ⟨hi, fun e => by simp only [Nat.add_zero] at e; rw [e] at hh; omega⟩
  · obtain ⟨h1, h2⟩ := decode_cont t i j hp hj
    refine ⟨h1, fun e => ?_⟩
    rw [get_is h1, e] at h2
    omega

end Go.Proofs.YtokdhgocgicdnaaGreatDoor

/- The model's text of a grammar: l02Text, GramText. -/
namespace Go.Proofs.YtokdhgocgicdnaaGreatDoor
open Go.RowKit
open Tx (Bts bv bs textT lineT symsT Short)

theorem ret_strT {a b : ByteArray} (h : a = b) : Ending.returned (.string a) = .returned (.string b) := by rw [h]

set_option maxRecDepth 100000 in
set_option maxHeartbeats 4000000 in
theorem specText_any (rs : List RuleD) (v : Value) (lo hi : Nat) (w : World) (h : Rules w lo hi v rs) (hh : hi ≤ w.heap.size) (hlen : rs.length ≤ 20) (hshort : ∀ i (h : i < rs.length), Short rs[i]) :
    Calls Tryz.prog 96 #[.agg #[v]] w fun e w' => e = .returned (.string (bs (textT rs))) ∧ Below w.heap.size w w' := by
  obtain ⟨i0, hi0, hz0, hz1, hz2⟩ := info_parts Tx.infoB
  obtain ⟨A, c, rfl, hlc, hc, hcell⟩ := h
  unfold maxLen at hc
  have HC := Lib.hid hcell
  have HSH := Lib.hid hshort
  clear hcell hshort
  go_enter Tryz.func96, Tryz.ntmps96
  go_wp2
  go_loopw [3, 4, 5, 6] (fun x i _ _ wr => ∃ (k : Nat), k ≤ rs.length ∧ i = .int .i64 k ∧ Bts wr (w.heap.size + 1) x (textT (rs.take k)) ∧ Row wr w.heap.size 25 #[.slice A rs.length c] ∧ Below w.heap.size w wr) (fun _ i _ _ _ => rs.length - (intOf i).toNat)
  case atStart => exact ⟨0, by omega, rfl, by simpa [textT] using Tx.Bts.nil (w.alloc (.cells #[.slice A rs.length c] 25)) (base := w.heap.size + 1) (by simp), (Row.made _ _ _).alloc _, al2 _ _ _⟩
  case round =>
    obtain ⟨k, hk, rfl, hbts, hrow, hbw⟩ := hrel
    have hsw := hbw.size
    have hc0 := hrow.cell 0
    simp at hc0
    have hwl := hrow.lt
    have HW := Lib.hid hrow
    clear hrow
    by_cases hlt : k < rs.length
    · obtain ⟨b, off, rfl, _, hbh, hcc⟩ := HC.out (by omega)
      obtain ⟨hhs, hd0, u, hd1, hst⟩ := hcc k hlt
      have hd0' := (hbw.cell (p := ⟨b, off + k * 2, none⟩) (by show b < _; omega)).trans hd0
      have hd1' := (hbw.cell (p := ⟨b, off + k * 2 + 1, none⟩) (by show b < _; omega)).trans hd1
      obtain ⟨sh1, sh2, sh3⟩ := HSH.out k hlt
      have HS := Lib.hid hst
      clear hcc hd0 hd1
      obtain ⟨A', c', rfl, -⟩ := hst
      have ha := al1 wr (.cells #[.string rs[k].head, .slice A' rs[k].body.length c'] 45)
      have hR := Row.made wr 45 #[.string rs[k].head, .slice A' rs[k].body.length c']
      have htl := Tx.textT_len HSH.out k hk
      have hap : (rs[k].head ++ ⟨#[32, 45, 62]⟩ : ByteArray).size ≤ 7 := by rw [ByteArray.size_append]; show _ + 3 ≤ 7; omega
      have HSH3 := Lib.hid sh3
      clear sh3
      go_wp2_with (at_builtin; refine Lib.wpList_append_own_string _ rfl _ _ 22 9 rfl (w.heap.size + 1) 5 i0 Tryz.underlying22 Tryz.underlying9 hi0 hz0 hz1 hz2 _ _ _ rfl (World.ownsRow.alloc hbts _) (rs[k].head ++ ⟨#[32, 45, 62]⟩) rfl (by unfold maxLen; omega) (by omega) (by simp; omega) ?_)
      intro v1 w1 hown1 hg1 _
      have r1 : Row w1 wr.heap.size 45 #[.string rs[k].head, .slice A' rs[k].body.length c'] := Tx.row_grown hR (World.ownsRow.alloc hbts _) (by decide) hg1
      have q1 : Row w1 w.heap.size 25 #[.slice (some ⟨b, off, none⟩) rs.length c] := Tx.row_grown (HW.out.alloc _) (World.ownsRow.alloc hbts _) (by decide) hg1
      have hb1 : Below w.heap.size w w1 := Tx.below_grown (hbw.trans (ha.mono hsw)) (World.ownsRow.alloc hbts _) hg1 (by simp; omega) (by omega)
      have t1 : Bts w1 (w.heap.size + 1) v1 (textT (rs.take k) ++ (rs[k].head.data.toList ++ [32, 45, 62])) := by
        have := Tx.Bts.str (l := textT (rs.take k)) (s := rs[k].head ++ ⟨#[32, 45, 62]⟩) (by rw [ByteArray.size_append]; rfl) hown1
        exact this.to (by rw [Tx.bs_app]; rfl)
      clear hown1 hg1 hbts hR ha hbw hsw hc0 hd0' hd1'
      generalize hl1 : textT (rs.take k) ++ (rs[k].head.data.toList ++ [32, 45, 62]) = l1 at t1
      have HL1 := Lib.hid hl1
      have hll : l1.length ≤ 40 * k + 7 := by
        rw [← hl1]
        have : (rs[k].head.data.toList).length = rs[k].head.size := rfl
        simp only [List.length_append, List.length_cons, List.length_nil]; omega
      clear hl1
      go_wp2
      go_loopw [3, 6] (fun x i wr' => ∃ (j : Nat), j ≤ rs[k].body.length ∧ i = .int .i64 j ∧ Bts wr' (w.heap.size + 1) x (l1 ++ symsT (rs[k].body.take j)) ∧ Row wr' wr.heap.size 45 #[.string rs[k].head, .slice A' rs[k].body.length c'] ∧ Row wr' w.heap.size 25 #[.slice (some ⟨b, off, none⟩) rs.length c] ∧ Below w.heap.size w wr') (fun _ i _ => rs[k].body.length - (intOf i).toNat)
      case atStart => exact ⟨0, by omega, rfl, t1.to (by simp [symsT]), r1, q1, hb1⟩
      case round =>
        obtain ⟨j, hj, rfl, tb, rb, qb, hbb⟩ := hrel
        clear t1 r1 q1 hb1
        have e1 := rb.cell 1
        simp at e1
        have hsb := hbb.size
        have HSL := Tx.symsT_len HSH3.out j hj
        by_cases hjl : j < rs[k].body.length
        · obtain ⟨_, _, e0, _, _, _, hcellb⟩ := HS.out
          injection e0 with e01 _ e02
          subst e01 e02
          obtain ⟨b1, off1, rfl, _, hbh1, hcc1⟩ := hcellb (by omega)
          have hcb := (hbb.cell (p := ⟨b1, off1 + j, none⟩) (by show b1 < _; omega)).trans (hcc1 j hjl)
          have h4 := HSH3.out j hjl
          have hap2 : (⟨#[32]⟩ ++ rs[k].body[j] : ByteArray).size ≤ 5 := by rw [ByteArray.size_append]; show 1 + _ ≤ 5; omega
          clear hcellb hcc1
          generalize hl2 : l1 ++ symsT (rs[k].body.take j) = l2 at tb
          have hll2 : l2.length ≤ 40 * k + 7 + 5 * j := by rw [← hl2, List.length_append]; omega
          have HL2 := Lib.hid hl2
          clear hl2
          go_wp2_with (at_builtin; refine Lib.wpList_append_own_string _ rfl _ _ 22 9 rfl (w.heap.size + 1) 5 i0 Tryz.underlying22 Tryz.underlying9 hi0 hz0 hz1 hz2 _ _ _ rfl tb (⟨#[32]⟩ ++ rs[k].body[j]) rfl (by unfold maxLen; omega) (by omega) (by have := rb.lt; have := qb.lt; omega) ?_)
          intro v2 w2 hown2 hg2 _
          have r2 := Tx.row_grown rb tb (by decide) hg2
          have q2 := Tx.row_grown qb tb (by decide) hg2
          have hb2 : Below w.heap.size w w2 := Tx.below_grown hbb tb hg2 hsb (by omega)
          have t2 : Bts w2 (w.heap.size + 1) v2 (l1 ++ symsT (rs[k].body.take (j + 1))) := by
            have := Tx.Bts.str (l := l2) (s := ⟨#[32]⟩ ++ rs[k].body[j]) (by rw [ByteArray.size_append]; rfl) hown2
            exact this.to (by rw [← HL2.out, Tx.bs_app, Tx.symsT_take _ _ hjl, List.append_assoc]; rfl)
          clear hown2 hg2 tb rb qb hbb
          go_wp2
          go_roundw
          case rel => exact ⟨j + 1, by omega, by go_num, t2, r2, q2, hb2⟩
          case measure => simp [intOf]; omega
        · have hjk : j = rs[k].body.length := by omega
          subst hjk
          rw [List.take_length] at tb
          have HT := Lib.hid (Tx.textT_take rs k hlt)
          by_cases h0 : rs[k].body.length = 0
          · have hnil : rs[k].body = [] := List.eq_nil_of_length_eq_zero h0
            have d0 : ((rs[k].body.length : Int) == 0) = true := by rw [beq_iff_eq]; omega
            have HX := Lib.hid (Tx.lineT_none (l := textT (rs.take k)) hnil)
            rw [hnil] at tb
            generalize hl2 : l1 ++ symsT [] = l2 at tb
            have hll2 : l2.length ≤ 40 * k + 7 := by rw [← hl2]; simpa [symsT] using hll
            have HL2 := Lib.hid hl2
            clear hnil h0 hl2
            go_wp2_with (at_builtin; refine Lib.wpList_append_own_string _ rfl _ _ 22 9 rfl (w.heap.size + 1) 5 i0 Tryz.underlying22 Tryz.underlying9 hi0 hz0 hz1 hz2 _ _ _ rfl tb ⟨#[32, 126]⟩ rfl (by unfold maxLen; show _ + 2 ≤ _; omega) (by show _ + 2 ≤ _; omega) (by have := rb.lt; have := qb.lt; omega) ?_)
            intro v2 w2 hown2 hg2 _
            have q2 := Tx.row_grown qb tb (by decide) hg2
            have hb2 : Below w.heap.size w w2 := Tx.below_grown hbb tb hg2 hsb (by omega)
            have t2 : Bts w2 (w.heap.size + 1) v2 (l2 ++ [32, 126]) := Tx.Bts.str (l := l2) (s := ⟨#[32, 126]⟩) rfl hown2
            have hsz2 := hb2.size
            have hq2 := q2.lt
            generalize hl3 : l2 ++ [32, 126] = l3 at t2
            have hll3 : l3.length ≤ 40 * k + 9 := by rw [← hl3, List.length_append]; simp only [List.length_cons, List.length_nil]; omega
            have HL3 := Lib.hid hl3
            clear hown2 hg2 tb rb qb hbb hl3
            go_wp2_with (at_builtin; refine wpList_append_own _ rfl _ _ 22 rfl (w.heap.size + 1) 5 i0 (.int .u8 0) 1 1 Tryz.underlying22 hi0 hz0 hz1 hz2 rfl (by decide) _ _ _ rfl (World.ownsRow.alloc t2 _) ⟨w2.heap.size, 0, none⟩ 1 1 [.int .u8 10] rfl rfl (cell_one_new _ _ _) (Tx.one_cell _) (by unfold maxLen; omega) (by omega) (by simp; omega) ?_)
            intro v3 w3 hown3 hg3 _
            have q3 := Tx.row_grown (q2.alloc _) (World.ownsRow.alloc t2 _) (by decide) hg3
            have hb3 : Below w.heap.size w w3 := Tx.below_grown (hb2.trans ((al1 w2 _).mono hsz2)) (World.ownsRow.alloc t2 _) hg3 (by simp; omega) (by omega)
            have t3 : Bts w3 (w.heap.size + 1) v3 (textT (rs.take (k + 1))) := (Tx.Bts.one 10 hown3).to (by rw [HT.out, ← HX.out, HL1.out, HL2.out, HL3.out])
            clear hown3 hg3 t2 q2
            go_wp2
            go_roundw
            case rel => exact ⟨k + 1, by omega, by go_num, t3, q3, hb3⟩
            case measure => simp [intOf]; omega
          · have hne : rs[k].body ≠ [] := fun e => h0 (by rw [e]; rfl)
            have d0 : ((rs[k].body.length : Int) == 0) = false := by rw [beq_eq_false_iff_ne]; omega
            have HX := Lib.hid (Tx.lineT_some (l := textT (rs.take k)) hne)
            have hsl := Tx.symsT_len HSH3.out rs[k].body.length (Nat.le_refl _)
            rw [List.take_length] at hsl
            generalize hl2 : l1 ++ symsT rs[k].body = l2 at tb
            have hll2 : l2.length ≤ 40 * k + 40 := by rw [← hl2, List.length_append]; omega
            have HL2 := Lib.hid hl2
            have hq2 := qb.lt
            clear hl2 hne rb
            go_wp2_with (at_builtin; refine wpList_append_own _ rfl _ _ 22 rfl (w.heap.size + 1) 5 i0 (.int .u8 0) 1 1 Tryz.underlying22 hi0 hz0 hz1 hz2 rfl (by decide) _ _ _ rfl (World.ownsRow.alloc tb _) ⟨_, 0, none⟩ 1 1 [.int .u8 10] rfl rfl (cell_one_new _ _ _) (Tx.one_cell _) (by unfold maxLen; omega) (by omega) (by simp; omega) ?_)
            intro v3 w3 hown3 hg3 _
            have q3 := Tx.row_grown (qb.alloc _) (World.ownsRow.alloc tb _) (by decide) hg3
            have hb3 : Below w.heap.size w w3 := Tx.below_grown (hbb.trans ((al1 _ _).mono hsb)) (World.ownsRow.alloc tb _) hg3 (by simp; omega) (by omega)
            have t3 : Bts w3 (w.heap.size + 1) v3 (textT (rs.take (k + 1))) := (Tx.Bts.one 10 hown3).to (by rw [HT.out, ← HX.out, HL1.out, HL2.out])
            clear hown3 hg3 tb qb
            go_wp2
            go_roundw
            case rel => exact ⟨k + 1, by omega, by go_num, t3, q3, hb3⟩
            case measure => simp [intOf]; omega
    · have hks : k = rs.length := by omega
      subst hks
      rw [List.take_length] at hbts
      have hcv := hbts.conv
      clear hbts
      go_wp2
      go_ret
      exact ⟨rfl, hbw⟩

/-- the text of a right grammar -/
def gramT (rs : List RuleD) : ByteArray := if gramB rs = true then bs (textT rs) else bs []
theorem gramT_t {rs : List RuleD} (h : gramB rs = true) : gramT rs = bs (textT rs) := if_pos h
theorem gramT_f {rs : List RuleD} (h : gramB rs = false) : gramT rs = bs [] := if_neg (by rw [h]; decide)

set_option maxHeartbeats 1000000 in
theorem specGramText_any (rs : List RuleD) (v : Value) (lo hi : Nat) (w : World) (h : Rules w lo hi v rs) (hh : hi ≤ w.heap.size) :
    Calls Tryz.prog 81 #[.agg #[v]] w fun e w' => e = .returned (.string (gramT rs)) ∧ Below w.heap.size w w' := by
  have HV := Lib.hid h
  obtain ⟨A, c, rfl, -⟩ := h
  have hb := al1 w (.cells #[.slice A rs.length c] 25)
  have R0 := Row.made w 25 #[.slice A rs.length c]
  cases hq : gramB rs
  · rw [gramT_f hq]
    have HQ := Lib.hid hq
    clear hq
    go_enter Tryz.func81, Tryz.ntmps81
    go_wp2_with fail
    refine (specGramRight_any rs _ lo hi _ (HV.out.below hb hh) (by simp; omega)).mono ?_
    rintro e w1 ⟨rfl, b1⟩
    rw [HQ.out]
    go_wp2
    go_ret
    exact ⟨rfl, hb.trans (b1.mono (by simp))⟩
  · rw [gramT_t hq]
    have HQ := Lib.hid hq
    clear hq
    go_enter Tryz.func81, Tryz.ntmps81
    go_wp2_with fail
    refine (specGramRight_any rs _ lo hi _ (HV.out.below hb hh) (by simp; omega)).mono ?_
    rintro e w1 ⟨rfl, b1⟩
    rw [HQ.out]
    have c1 := (R0.below b1 (by simp)).cell 0
    simp at c1
    have hb1 := hb.trans (b1.mono (by simp))
    have z1 := hb1.size
    have hg := (gramB_iff rs).1 HQ.out
    have HG := Lib.hid hg
    clear hg
    go_wp2_with fail
    refine (specText_any rs _ lo hi _ (HV.out.below hb1 hh) (by omega) HG.out.2.1 (fun i hi => Tx.short_of (HG.out.2.2 i hi))).mono ?_
    rintro e w2 ⟨rfl, b2⟩
    go_wp2
    go_ret
    exact ⟨rfl, hb1.trans (b2.mono z1)⟩
end Go.Proofs.YtokdhgocgicdnaaGreatDoor
