import Derived.Test.YtokdhgocgicdnaaGreatDoorJTo
import Derived.Test.YtokdhgocgicdnaaGreatDoorShelf
import Derived.Maps.RangeWalk
import Derived.Test.YtokdhgocgicdnaaGreatDoorJSplit
/- The symbols of a map, told by their numbers: the walk of told. -/
namespace Go.Proofs.YtokdhgocgicdnaaGreatDoor
open Go.RowKit Go.Maps

set_option maxHeartbeats 400000 in
theorem clone_any (s : ByteArray) (w : World) (h : s.size ≤ 281474976710656) :
    Calls Tryz.prog 27 #[.string s] w fun e w' => e = .returned (.string s) ∧ Below w.heap.size w w' := by
  go_enter Tryz.func27, Tryz.ntmps27
  go_wp2_with fail
  refine (Tryz.stringslite_Clone s _ h).mono ?_
  rintro e w1 ⟨rfl, b1⟩
  go_wp2
  go_ret
  exact ⟨rfl, b1⟩

theorem nodup_ne {acc : List ByteArray} (h : acc.Nodup) {i j : Nat} (hi : i < acc.length) (hj : j < acc.length) (hne : i ≠ j) : acc[i] ≠ acc[j] := by
  rcases Nat.lt_or_gt_of_ne hne with hl | hl
  · exact List.pairwise_iff_getElem.1 h i j hi hj hl
  · exact fun e => List.pairwise_iff_getElem.1 h j i hj hi hl e.symm
theorem invKey : ∀ (key : Value) (kl : Lit), keyOf Tryz.prog 9 key = some kl → ∃ x, key = Value.string x := fun key kl h => by
  obtain ⟨s, h1, _⟩ := WideMaps.string_of_keyOf Tryz.underlying9 h
  exact ⟨s, h1⟩
theorem invNum : ∀ (v : Value) (y : DataW Unit × List MemPlace), plainElem Tryz.prog 3 v = some y → ∃ c, v = Value.int .i64 c := fun v y h => by
  obtain ⟨c, h1, _⟩ := plainElem_int_inv Tryz.underlying3 h
  exact ⟨c, h1⟩
set_option maxRecDepth 100000 in
/-- what an entry of the map says -/
theorem entry_says {acc : List ByteArray} (hn : acc.Nodup) {x : ByteArray} {c : Int} {kl : Lit} {y : DataW Unit × List MemPlace} (hk : keyOf Tryz.prog 9 (.string x) = some kl) (hv : plainElem Tryz.prog 3 (.int .i64 c) = some y) (hat : ∀ z, (mapD acc).atKey kl z = y.1) :
    kl = symKey x ∧ ∃ i, ∃ h : i < acc.length, x = acc[i] ∧ c = (i : Int) := by
  obtain ⟨s, h1, h2, _⟩ := WideMaps.string_of_keyOf Tryz.underlying9 hk
  injection h1 with h1
  subst h1
  subst h2
  obtain ⟨c', e1, e2, _⟩ := plainElem_int_inv Tryz.underlying3 hv
  injection e1 with _ e1
  subst e1
  have hin := (mapD_has acc x).symm.trans (has_true_of_atKey (D := mapD acc) (k := symKey x) hat)
  obtain ⟨i, hi, rfl⟩ := List.getElem_of_mem ((inB_iff _ _).1 hin)
  refine ⟨rfl, i, hi, rfl, ?_⟩
  have h3 := (mapD_at acc hn i hi (.map [])).symm.trans (hat (.map []))
  rw [e2] at h3
  unfold symNum at h3
  injection h3 with h3
  injection h3 with _ h3
  exact h3.symm

set_option maxRecDepth 100000 in
set_option maxHeartbeats 2000000 in
theorem told_any (b : Nat) (acc : List ByteArray) (w : World) (h : Nums w b acc) (hn : acc.Nodup) (hl : acc.length ≤ 1000000) (hs : ∀ s ∈ acc, s.size ≤ 1000000) :
    Calls Tryz.prog 103 #[.agg #[.map (some b)]] w fun e w' => ∃ u g, e = .returned u ∧ OwnS w' g u acc ∧ w.heap.size ≤ g ∧ g < w'.heap.size ∧ Below w.heap.size w w' := by
  have HS := Lib.hid (mapD_size acc hn)
  have HN := Lib.hid hn
  have HZ := Lib.hid hs
  have hbl := h.lt
  have hmk := run_make_row' (P := Tryz.prog) 26 9 (.string ByteArray.empty) 16 Tryz.underlying26 Tryz.infoStr rfl .i64 .i64 acc.length (by omega) (by omega)
  clear hn hs
  go_enter Tryz.func103, Tryz.ntmps103
  go_wp2_with (first | (at_len; refine wpList_len_own _ rfl _ 174 rfl 9 3 Tryz.underlying174 _ b _ _ rfl (World.ownsMap.alloc h _) ?_; rw [HS.out]) | (at_range; refine wpList_range_own _ rfl _ 174 rfl 9 3 keyLaw Tryz.underlying174 _ b _ _ rfl (World.ownsMap.alloc (World.ownsMap.alloc h _) _) ?_; intro w0 hrg0 hg0 hs0))
  go_frame
  have hr : ((w.alloc (Obj.cells #[Value.map (some b)] 178)).alloc (Obj.cells (madeCells #[Value.string ByteArray.empty] acc.length) 9)).heap.size = w.heap.size + 2 := by simp
  have row0 : Row w0 (w.heap.size + 1) 9 (madeCells #[Value.string ByteArray.empty] acc.length) := by
    have := Row.made (w.alloc (Obj.cells #[Value.map (some b)] 178)) 9 (madeCells #[Value.string ByteArray.empty] acc.length)
    exact Row.same (by simpa using this) (hg0.block _ (by rw [hr]; omega) (by simp))
  have bel0 : Below w.heap.size w w0 := (al2 w _ _).grown hg0 (by rw [hr]; omega) (fun k hk => by cases hk)
  generalize ((w.alloc (Obj.cells #[Value.map (some b)] 178)).alloc (Obj.cells (madeCells #[Value.string ByteArray.empty] acc.length) 9)).heap.size = r at *
  have hr2 : w.heap.size + 1 < r := by omega
  have HR := Lib.hid hr
  clear hr hg0 hs0
  go_loopw [4, 5] (fun _ _ wr => ∃ (left : Lit → Bool) (cnt : Nat) (cur : Array Value), wr.ranges Tryz.prog 9 (plainElem Tryz.prog 3) b r acc.length (mapD acc) left cnt ∧ Row wr (w.heap.size + 1) 9 cur ∧ cur.size = acc.length ∧
    (∀ i (h : i < acc.length), left (symKey acc[i]) = false → cur[i]? = some (.string acc[i])) ∧ Below w.heap.size w wr) (fun _ _ wr => wr.rangeLeft b r)
  case atStart => exact ⟨_, _, _, hrg0, row0, size_madeCells _ _, (fun i hi hf => by rw [mapD_has, (inB_iff _ _).2 (List.getElem_mem hi)] at hf; cases hf), bel0⟩
  case round =>
    obtain ⟨left, cnt, cur, hrg, hrow, hcs, hall, hbw⟩ := hrel
    have HRG := Lib.hid hrg
    have HRW := Lib.hid hrow
    have HCS := Lib.hid hcs
    have HALL := Lib.hid hall
    have hsw := hbw.size
    have hgl := hrow.lt
    clear hrg hrow hcs hall hrg0 row0 bel0
    go_wp2_with (at_next; refine wpList_next_ranges _ rfl _ rfl 9 keyLaw (plainElem Tryz.prog 3) Value.string (Value.int .i64) invKey invNum b r acc.length (mapD acc) left cnt rfl HRG.out ?_ ?_)
    · intro _ hl0
      go_wp2
      go_ret
      refine ⟨_, w.heap.size + 1, rfl, ⟨_, _, rfl, Nat.le_refl _, by unfold maxLen; omega, fun s hs => by have := HZ.out s hs; unfold maxLen; omega, fun _ => ⟨0, cur, rfl, HRW.out, fun i hi => ?_⟩⟩, by omega, hgl, hbw⟩
      rw [Nat.zero_add]
      exact HALL.out i hi (hl0 _)
    · intro x c kl y ps w1 cnt1 hkx hlk hvc hat hrg1 hlt1 hg1 hs1 hen
      obtain ⟨hkl, i, hi, hx, hc⟩ := entry_says (y := (y, ps)) HN.out hkx hvc hat
      subst hc
      have hxs : x.size ≤ 281474976710656 := by rw [hx]; have := HZ.out acc[i] (List.getElem_mem hi); omega
      have HX := Lib.hid hx
      have HKL := Lib.hid hkl
      have HG1 := Lib.hid hg1
      have HS1 := Lib.hid hs1
      have HR1 := Lib.hid hrg1
      have hneb : b ≠ w.heap.size + 1 := by omega
      clear hat hkx hlk hvc hg1 hs1 hrg1 hx hkl
      go_wp2_with fail
      refine (clone_any x _ hxs).mono ?_
      rintro e w2 ⟨rfl, b2⟩
      have row1 : Row w1 (w.heap.size + 1) 9 cur := HRW.out.same (HG1.out.block _ hgl (by simp; omega))
      have row2 := row1.below b2 row1.lt
      obtain ⟨u0, hd⟩ := row2.there (show i < cur.size by rw [HCS.out]; exact hi)
      have hf := row2.free i
      have HROW2 := Lib.hid row2
      have hrl := HR1.out.lt
      have hbl1 := HR1.out.owns.lt
      have hrg2 : w2.ranges Tryz.prog 9 (plainElem Tryz.prog 3) b r acc.length (mapD acc) (fun z => left z && !z.sameKey kl) cnt1 := HR1.out.kept (row := none) ⟨b2.os, b2.tape, b2.output, b2.size, fun k hk _ => b2.block k hk⟩ (by simp) (by simp)
      have HRG2 := Lib.hid hrg2
      have hb1 : Below w.heap.size w w1 := hbw.grown HG1.out hsw (fun k hk => by injection hk with hk; omega)
      have hb2 := hb1.trans (b2.mono hb1.size)
      clear row1 row2 hrg2 hen
      have hii : (i : Int) < (acc.length : Int) := by omega
      have hnew : (w2.setCell ⟨w.heap.size + 1, i, none⟩ (.string x)).ranges Tryz.prog 9 (plainElem Tryz.prog 3) b r acc.length (mapD acc) (fun z => left z && !z.sameKey kl) cnt1 := HRG2.out.kept (row := some (w.heap.size + 1)) ⟨rfl, rfl, rfl, by simp [World.setCell], fun k _ hne => Below.heap_setCell _ _ _ _ (fun e => hne (by rw [e]))⟩ (by simp; omega) (by simp; omega)
      have HNEW := Lib.hid hnew
      clear hnew
      go_wp2
      go_roundw
      case rel =>
        refine ⟨_, cnt1, _, HNEW.out, HROW2.out.put i _, by simp [HCS.out], fun j hj hfalse => ?_, hb2.setCell (by simp) _⟩
        by_cases e : j = i
        · subst e; rw [Array.getElem?_setIfInBounds_self_of_lt (by rw [HCS.out]; exact hj), HX.out]
        · rw [Array.getElem?_setIfInBounds_ne (by omega)]
          refine HALL.out j hj ?_
          rw [HKL.out, HX.out] at hfalse
          have hne : acc[j] ≠ acc[i] := nodup_ne HN.out hj hi e
          rw [sameKey_ne (sameKey_ne' hne)] at hfalse
          simpa using hfalse
      case measure => rw [HNEW.out.left_eq, HRG.out.left_eq]; exact hlt1
end Go.Proofs.YtokdhgocgicdnaaGreatDoor

/- The walks of the program's Heads and Tokens. -/
namespace Go.Proofs.YtokdhgocgicdnaaGreatDoor
open Go.RowKit Go.Maps

/-- a list of texts that a call has made -/
def MadeS (w : World) (ss : List ByteArray) (e : Ending) (w' : World) : Prop := ∃ u g, e = .returned u ∧ OwnS w' g u ss ∧ (ss ≠ [] → w.heap.size ≤ g ∧ g < w'.heap.size) ∧ Below w.heap.size w w'
theorem OwnS.nil (w : World) (g : Nat) : OwnS w g (.slice none 0 0) [] := ⟨none, 0, rfl, Nat.le_refl _, by unfold maxLen; omega, by simp, fun h => by simp at h⟩

def headsTo (rs : List RuleD) (k : Nat) : List ByteArray := (rs.take k).foldl (fun acc r => addSym acc r.head) []
/-- the heads of a right grammar -/
def headsOf (rs : List RuleD) : List ByteArray := if gramB rs = true then headsTo rs rs.length else []
theorem headsTo_succ {rs : List RuleD} {k : Nat} (h : k < rs.length) : headsTo rs (k + 1) = addSym (headsTo rs k) rs[k].head := by
  unfold headsTo; rw [List.take_succ_eq_append_getElem h, List.foldl_append]; rfl
theorem headsTo_nodup (rs : List RuleD) (k : Nat) : (headsTo rs k).Nodup := by
  induction k with
  | zero => simp [headsTo]
  | succ k ih =>
    by_cases h : k < rs.length
    · rw [headsTo_succ h]; exact addSym_nodup ih
    · have : headsTo rs (k + 1) = headsTo rs k := by unfold headsTo; rw [List.take_of_length_le (by omega), List.take_of_length_le (by omega)]
      rw [this]; exact ih
theorem headsTo_len (rs : List RuleD) (k : Nat) : (headsTo rs k).length ≤ k := by
  induction k with
  | zero => simp [headsTo]
  | succ k ih =>
    by_cases h : k < rs.length
    · rw [headsTo_succ h]; have := addSym_len (headsTo rs k) rs[k].head; omega
    · have : headsTo rs (k + 1) = headsTo rs k := by unfold headsTo; rw [List.take_of_length_le (by omega), List.take_of_length_le (by omega)]
      rw [this]; omega
theorem mem_addSym {acc : List ByteArray} {s t : ByteArray} (h : t ∈ addSym acc s) : t ∈ acc ∨ t = s := by
  unfold addSym at h
  split at h
  · exact .inl h
  · rw [List.mem_append, List.mem_singleton] at h; exact h
theorem headsTo_mem {rs : List RuleD} {k : Nat} {s : ByteArray} (h : s ∈ headsTo rs k) : ∃ i, ∃ h : i < rs.length, s = rs[i].head := by
  induction k with
  | zero => simp [headsTo] at h
  | succ k ih =>
    by_cases hk : k < rs.length
    · rw [headsTo_succ hk] at h
      rcases mem_addSym h with h | h
      · exact ih h
      · exact ⟨k, hk, h⟩
    · have : headsTo rs (k + 1) = headsTo rs k := by unfold headsTo; rw [List.take_of_length_le (by omega), List.take_of_length_le (by omega)]
      rw [this] at h; exact ih h
theorem symB_size' {lo hi : Nat} {s : ByteArray} (h : symB lo hi s = true) : s.size ≤ 4 := ((symB_iff lo hi s).1 h).2.1
theorem headB_size {s : ByteArray} (h : headB s = true) : s.size ≤ 4 := symB_size' h
theorem tokB_size {s : ByteArray} (h : tokB s = true) : s.size ≤ 4 := symB_size' h
theorem headsOf_len (rs : List RuleD) : (headsOf rs).length ≤ 1000 := by
  unfold headsOf
  split
  · rename_i h
    have := headsTo_len rs rs.length
    have := ((gramB_iff rs).1 h).2.1
    omega
  · simp
theorem headsOf_t {rs : List RuleD} (h : gramB rs = true) : headsOf rs = headsTo rs rs.length := if_pos h
theorem headsOf_f {rs : List RuleD} (h : gramB rs = false) : headsOf rs = [] := if_neg (by rw [h]; decide)

set_option maxRecDepth 100000 in
set_option maxHeartbeats 2000000 in
theorem implHeads_any (rs : List RuleD) (v : Value) (lo hi : Nat) (w : World) (h : Rules w lo hi v rs) (hh : hi ≤ w.heap.size) :
    Calls Tryz.prog 86 #[.agg #[v]] w (MadeS w (headsOf rs)) := by
  have HV := Lib.hid h
  obtain ⟨A, c, rfl, hlc, hc, hcell⟩ := h
  unfold maxLen at hc
  have HC := Lib.hid hcell
  clear hcell
  have hb := al1 w (.cells #[.slice A rs.length c] 25)
  have R0 := Row.made w 25 #[.slice A rs.length c]
  cases hq : gramB rs
  · rw [headsOf_f hq]
    have HQ := Lib.hid hq
    clear hq
    go_enter Tryz.func86, Tryz.ntmps86
    go_wp2_with fail
    refine (implGramRight_any rs _ lo hi _ (HV.out.below hb hh) (by simp; omega)).mono ?_
    rintro e w1 ⟨rfl, b1⟩
    rw [HQ.out]
    go_wp2
    go_ret
    exact ⟨_, 0, rfl, OwnS.nil _ _, fun hn => absurd rfl hn, hb.trans (b1.mono (by simp))⟩
  · rw [headsOf_t hq]
    have HG := Lib.hid ((gramB_iff rs).1 hq)
    have HQ := Lib.hid hq
    have hl20 := HG.out.2.1
    clear hq
    go_enter Tryz.func86, Tryz.ntmps86
    go_wp2_with fail
    refine (implGramRight_any rs _ lo hi _ (HV.out.below hb hh) (by simp; omega)).mono ?_
    rintro e w1 ⟨rfl, b1⟩
    rw [HQ.out]
    have hb1 := hb.trans (b1.mono (by simp))
    have z1 : w.heap.size + 1 ≤ w1.heap.size := by have := b1.size; simpa using this
    have R1 := R0.below b1 (by simp)
    clear b1 R0 hb
    go_wp2_with fail
    refine (newSymbolList_any _).mono ?_
    rintro e w2 ⟨b, rfl, hn2, hbl, hbl2, b2⟩
    have hb2 := hb1.trans (b2.mono (by omega))
    have z2 := b2.size
    have c2 := (R1.below b2 (by omega)).cell 0
    simp at c2
    have N3 : Nums (w2.alloc (.cells #[.map (some b)] 178)) b [] := hn2.keep (Below.heap_alloc _ _ _ hbl2)
    have R3 := Row.made w2 178 #[.map (some b)]
    have hb3 := hb2.trans ((al1 w2 (.cells #[.map (some b)] 178)).mono hb2.size)
    have hlt2 : w.heap.size < w2.heap.size := by omega
    clear hn2 R1 hb1 b2
    go_wp2
    go_loopw [5, 13] (fun _ i wr => ∃ (k : Nat), k ≤ rs.length ∧ i = .int .i64 k ∧ Nums wr b (headsTo rs k) ∧ Row wr w2.heap.size 178 #[.map (some b)] ∧ Below w.heap.size w wr) (fun _ i _ => rs.length - (intOf i).toNat)
    case atStart => exact ⟨0, by omega, rfl, N3, R3, hb3⟩
    case round =>
      obtain ⟨k, hk, rfl, hnum, hrow, hbw⟩ := hrel
      have hsw := hbw.size
      have hwl := hrow.lt
      have hnl := hnum.lt
      clear N3 R3 hb3 hb2
      by_cases hlt : k < rs.length
      · obtain ⟨b0, off, rfl, _, hbh, hcc⟩ := HC.out (by omega)
        obtain ⟨hhs, hc0, u, hc1, hst⟩ := hcc k hlt
        have hc0' := (hbw.cell (p := ⟨b0, off + k * 2, none⟩) (by show b0 < _; omega)).trans hc0
        have hc1' := (hbw.cell (p := ⟨b0, off + k * 2 + 1, none⟩) (by show b0 < _; omega)).trans hc1
        obtain ⟨A', c', rfl, -⟩ := hst
        clear hcc hc0 hc1
        have ha := al1 wr (.cells #[.string rs[k].head, .slice A' rs[k].body.length c'] 45)
        have hr0 := hrow.cell 0
        simp at hr0
        have HN := Lib.hid (headsTo_nodup rs k)
        have hln := headsTo_len rs k
        have HSU := Lib.hid (headsTo_succ hlt)
        have N4 : Nums (wr.alloc (.cells #[.string rs[k].head, .slice A' rs[k].body.length c'] 45)) b (headsTo rs k) := hnum.below ha hnl
        have R4 := hrow.alloc (.cells #[.string rs[k].head, .slice A' rs[k].body.length c'] 45)
        clear hrow hnum
        go_wp2_with fail
        refine (number_any b (headsTo rs k) rs[k].head _ N4 HN.out hhs (by omega)).mono ?_
        rintro e w5 ⟨rfl, N5, g5⟩
        have R5 : Row w5 w2.heap.size 178 #[.map (some b)] := R4.same (g5.block _ R4.lt (by simp; omega))
        have B5 : Below w.heap.size w w5 := (hbw.trans (ha.mono hsw)).grown g5 (by simp; omega) (fun j hj => by injection hj with hj; omega)
        rw [← HSU.out] at N5
        clear N4 R4 g5
        go_wp2
        go_roundw
        case rel => exact ⟨k + 1, by omega, by go_num, N5, R5, B5⟩
        case measure => simp [intOf]; omega
      · have hks : k = rs.length := by omega
        subst hks
        have hr0 := hrow.cell 0
        simp at hr0
        have hln := headsTo_len rs rs.length
        have HSZ : Hid (∀ s ∈ headsTo rs rs.length, s.size ≤ 1000000) := Lib.hid (fun s hs => by
          obtain ⟨i, hi, rfl⟩ := headsTo_mem hs
          have := headB_size ((ruleB_iff _).1 (HG.out.2.2 i hi)).1
          omega)
        have HN := Lib.hid (headsTo_nodup rs rs.length)
        clear hrow
        go_wp2_with fail
        refine (told_any b (headsTo rs rs.length) _ hnum HN.out (by omega) HSZ.out).mono ?_
        rintro e w6 ⟨u, g, rfl, o6, h61, h62, b6⟩
        go_wp2
        go_ret
        exact ⟨u, g, rfl, o6, fun _ => ⟨by omega, h62⟩, hbw.trans (b6.mono hsw)⟩
end Go.Proofs.YtokdhgocgicdnaaGreatDoor

/- The model's GramRight. -/
namespace Go.Proofs.YtokdhgocgicdnaaGreatDoor
open Go.RowKit

set_option maxRecDepth 100000 in
set_option maxHeartbeats 2000000 in
theorem specGramRight_any (rs : List RuleD) (v : Value) (lo hi : Nat) (w : World) (h : Rules w lo hi v rs) (hh : hi ≤ w.heap.size) :
    Calls Tryz.prog 31 #[.agg #[v]] w fun e w' => e = .returned (.bool (gramB rs)) ∧ Below w.heap.size w w' := by
  obtain ⟨A, c, rfl, hlc, hc, hcell⟩ := h
  unfold maxLen at hc
  have HC := Lib.hid hcell
  clear hcell
  go_enter Tryz.func31, Tryz.ntmps31
  go_wp2
  go_loopw [3, 4, 5] (fun i _ _ wr => ∃ (k : Nat), k ≤ rs.length ∧ k ≤ 21 ∧ i = .int .i64 k ∧ Row wr w.heap.size 25 #[.slice A rs.length c] ∧ Below w.heap.size w wr ∧ (∀ j (h : j < rs.length), j < k → ruleB rs[j] = true)) (fun i _ _ _ => rs.length - (intOf i).toNat)
  case atStart => exact ⟨0, by omega, by omega, rfl, Row.made _ _ _, al1 _ _, fun j _ hj => by omega⟩
  case round =>
    obtain ⟨k, hk, hk21, rfl, hrow, hbw, hall⟩ := hrel
    have HA := Lib.hid hall
    have hsw := hbw.size
    have hc0 := hrow.cell 0
    simp at hc0
    have HW := Lib.hid hrow
    have hwl := hrow.lt
    clear hall hrow
    by_cases hlt : k < rs.length
    · by_cases h20 : k ≤ 20
      · obtain ⟨b, off, rfl, _, hbh, hcc⟩ := HC.out (by omega)
        obtain ⟨hhs, hd0, u, hd1, hst⟩ := hcc k hlt
        have hd0' := (hbw.cell (p := ⟨b, off + k * 2, none⟩) (by show b < _; omega)).trans hd0
        have hd1' := (hbw.cell (p := ⟨b, off + k * 2 + 1, none⟩) (by show b < _; omega)).trans hd1
        have hst' := hst.below hbw hh
        clear hcc hd0 hd1 hst
        have HS := Lib.hid hst'
        obtain ⟨A', c', rfl, hlc', hc', hsz', hcell'⟩ := hst'
        have HZ := Lib.hid hsz'
        unfold maxLen at hc'
        have ha := al1 wr (.cells #[.string rs[k].head, .slice A' rs[k].body.length c'] 45)
        clear hsz' hcell'
        cases h3 : headB rs[k].head
        · have H3 := Lib.hid h3
          clear h3
          go_wp2_with fail
          refine (specIsHead_any _ _ hhs).mono ?_
          rintro e w2 ⟨rfl, rfl⟩
          rw [H3.out]
          go_wp2
          go_ret
          exact ⟨ret_bool (gramB_f fun ⟨_, _, a⟩ => by have := ((ruleB_iff _).1 (a k hlt)).1; rw [H3.out] at this; cases this).symm, hbw.trans (ha.mono hsw)⟩
        · have H3 := Lib.hid h3
          clear h3
          by_cases h5 : 5 < rs[k].body.length
          · go_wp2_with fail
            refine (specIsHead_any _ _ hhs).mono ?_
            rintro e w2 ⟨rfl, rfl⟩
            rw [H3.out]
            go_wp2
            go_ret
            exact ⟨ret_bool (gramB_f fun ⟨_, _, a⟩ => by have := ((ruleB_iff _).1 (a k hlt)).2.1; omega).symm, hbw.trans (ha.mono hsw)⟩
          · go_wp2_with fail
            refine (specIsHead_any _ _ hhs).mono ?_
            rintro e w2 ⟨rfl, rfl⟩
            rw [H3.out]
            go_wp2
            go_loop [5] (fun i => ∃ (j : Nat), j ≤ rs[k].body.length ∧ i = .int .i64 j ∧ (∀ m (h : m < rs[k].body.length), m < j → symOK rs[k].body[m] = true)) (fun i => rs[k].body.length - (intOf i).toNat)
            case atStart => exact ⟨0, by omega, rfl, fun j _ hj => by omega⟩
            case round =>
              obtain ⟨j, hj, rfl, hsym⟩ := hrel
              have HY := Lib.hid hsym
              clear hsym
              by_cases hjl : j < rs[k].body.length
              · obtain ⟨_, _, e0, _, _, _, hcellb⟩ := HS.out
                injection e0 with e1 _ e2
                subst e1 e2
                obtain ⟨b1, off1, rfl, _, hbh1, hcc1⟩ := hcellb (by omega)
                have hcb := (ha.cell (p := ⟨b1, off1 + j, none⟩) (by show b1 < _; omega)).trans (hcc1 j hjl)
                have hsz := HZ.out _ (List.getElem_mem hjl)
                clear hcellb hcc1
                cases h6 : headB rs[k].body[j]
                · have H6 := Lib.hid h6
                  clear h6
                  cases h7 : tokB rs[k].body[j]
                  · have H7 := Lib.hid h7
                    clear h7
                    go_wp2_with fail
                    refine (specIsHead_any _ _ hsz).mono ?_
                    rintro e w2 ⟨rfl, rfl⟩
                    rw [H6.out]
                    go_wp2_with fail
                    refine (specIsToken_any _ _ hsz).mono ?_
                    rintro e w2 ⟨rfl, rfl⟩
                    rw [H7.out]
                    go_wp2
                    go_ret
                    exact ⟨ret_bool (gramB_f fun ⟨_, _, a⟩ => by have := a k hlt; rw [symOK_no hjl H6.out H7.out] at this; cases this).symm, hbw.trans (ha.mono hsw)⟩
                  · have H7 := Lib.hid h7
                    clear h7
                    go_wp2_with fail
                    refine (specIsHead_any _ _ hsz).mono ?_
                    rintro e w2 ⟨rfl, rfl⟩
                    rw [H6.out]
                    go_wp2_with fail
                    refine (specIsToken_any _ _ hsz).mono ?_
                    rintro e w2 ⟨rfl, rfl⟩
                    rw [H7.out]
                    go_wp2
                    go_round
                    case rel => exact ⟨j + 1, by omega, by go_num, fun m hm hmj => by
                      by_cases e : m = j
                      · subst e; unfold symOK; rw [H7.out, Bool.or_true]
                      · exact HY.out m hm (by omega)⟩
                    case measure => simp [intOf]; omega
                · have H6 := Lib.hid h6
                  clear h6
                  go_wp2_with fail
                  refine (specIsHead_any _ _ hsz).mono ?_
                  rintro e w2 ⟨rfl, rfl⟩
                  rw [H6.out]
                  go_wp2
                  go_round
                  case rel => exact ⟨j + 1, by omega, by go_num, fun m hm hmj => by
                    by_cases e : m = j
                    · subst e; unfold symOK; rw [H6.out, Bool.true_or]
                    · exact HY.out m hm (by omega)⟩
                  case measure => simp [intOf]; omega
              · go_wp2
                go_roundw
                case rel => exact ⟨k + 1, by omega, by omega, by go_num, HW.out.below ha hwl, hbw.trans (ha.mono hsw), fun j' hj' hjk => by
                  by_cases e : j' = k
                  · subst e; exact (ruleB_iff _).2 ⟨H3.out, by omega, fun i hi => HY.out i hi (by omega)⟩
                  · exact HA.out j' hj' (by omega)⟩
                case measure => simp [intOf]; omega
      · have d0 : decide ((k : Int) ≤ 20) = false := decide_eq_false (by omega)
        go_wp2
        go_ret
        exact ⟨ret_bool (by rw [gramB_f fun ⟨_, a, _⟩ => by omega]; simp; omega), hbw⟩
    · by_cases h1 : 1 ≤ rs.length
      · go_wp2
        go_ret
        refine ⟨ret_bool ?_, hbw⟩
        rw [Bool.eq_iff_iff, gramB_iff]
        simp
        exact ⟨fun h => ⟨by omega, by omega, fun i hi => HA.out i hi (by omega)⟩, fun h => by omega⟩
      · go_wp2
        go_ret
        exact ⟨ret_bool (by rw [gramB_f fun ⟨a, _⟩ => by omega]), hbw⟩
end Go.Proofs.YtokdhgocgicdnaaGreatDoor

/- The walks of the model's l02In, l02Heads and Heads. -/
namespace Go.Proofs.YtokdhgocgicdnaaGreatDoor
open Go.RowKit

theorem list_eqH (a b : ByteArray) : (a.toList == b.toList) = decide (a = b) := by
  rw [Bool.eq_iff_iff]; simp only [beq_iff_eq, decide_eq_true_eq]
  constructor
  · intro h
    apply ByteArray.ext
    apply Array.ext'
    simpa [ByteArray.toList_eq] using h
  · rintro rfl; rfl
/-- texts in a row of the call's own -/
def Sts (w : World) (base : Nat) (v : Value) (ss : List ByteArray) : Prop := w.ownsRow base 9 1 v ss.length (ss.map Value.string)
theorem Sts.nil (w : World) {base : Nat} (hb : base ≤ w.heap.size) : Sts (w.alloc (.cells #[] 9)) base (.slice (some ⟨w.heap.size, 0, none⟩) 0 0) [] := World.ownsRow_lit w #[] 0 hb (by unfold maxLen; omega) rfl
theorem Sts.one {w : World} {base : Nat} {v : Value} {ss : List ByteArray} (s : ByteArray) (h : w.ownsRow base 9 1 v (ss.length + 1) (ss.map Value.string ++ [.string s])) : Sts w base v (ss ++ [s]) := by
  unfold Sts
  rw [List.length_append, List.map_append]
  exact h
theorem Sts.own {w : World} {base : Nat} {v : Value} {ss : List ByteArray} (h : Sts w base v ss) (hz : ∀ s ∈ ss, s.size ≤ maxLen) : ∃ g, OwnS w g v ss ∧ (ss ≠ [] → base ≤ g ∧ g < w.heap.size) := by
  rcases h.2 with ⟨rfl, h0⟩ | ⟨g, cap, cur, rfl, hb, hh, hc, hm, hs, ht⟩
  · obtain rfl : ss = [] := List.eq_nil_of_length_eq_zero h0
    exact ⟨0, OwnS.nil w 0, fun hn => absurd rfl hn⟩
  · have hr : Row w g 9 cur := hh
    refine ⟨g, ⟨_, cap, rfl, hc, hm, hz, fun _ => ⟨0, cur, rfl, hr, fun i hi => ?_⟩⟩, fun _ => ⟨hb, hr.lt⟩⟩
    have h1 : (cur.toList.take (ss.length * 1))[i]? = some (.string ss[i]) := by rw [ht, List.getElem?_map, List.getElem?_eq_getElem hi]; rfl
    rw [List.getElem?_take_of_lt (by omega)] at h1
    rw [Nat.zero_add, ← Array.getElem?_toList]
    exact h1
theorem Sts.strs {w : World} {base : Nat} {v : Value} {ss : List ByteArray} (h : Sts w base v ss) (hz : ∀ s ∈ ss, s.size ≤ maxLen) : Strs w base w.heap.size v ss := by
  obtain ⟨g, ho, hg⟩ := h.own hz
  exact ho.strs hg
theorem one_str (s : ByteArray) : ∀ u ∈ [Value.string s], u.oneCell' = true := by
  intro u hu
  rw [List.mem_singleton] at hu; subst hu; rfl
theorem inB_t {ss : List ByteArray} {s : ByteArray} {k : Nat} (h : k < ss.length) (e : ss[k] = s) : inB ss s = true := (inB_iff _ _).2 (e ▸ List.getElem_mem h)
theorem inB_f {ss : List ByteArray} {s : ByteArray} (h : ∀ i (h : i < ss.length), ss[i] ≠ s) : inB ss s = false := by
  rw [Bool.eq_false_iff]
  intro e
  obtain ⟨i, hi, e2⟩ := List.getElem_of_mem ((inB_iff _ _).1 e)
  exact h i hi e2

end Go.Proofs.YtokdhgocgicdnaaGreatDoor
