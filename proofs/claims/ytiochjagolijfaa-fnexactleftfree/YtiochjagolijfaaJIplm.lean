import Derived.Test.YtiochjagolijfaaTre
import Derived.Test.YtiochjagolijfaaJSz
import Derived.Deep.QuietTactic
import Derived.StillTailTactics
import Derived.Test.YtiochjagolijfaaJPMap
import Derived.Laws.StructEq
/- The law's own measure of a tree that came in: szTreeS, szTree. -/
namespace Go.Proofs.Ytiochjagolijfaa
open Go.RowKit

theorem bulkTs_sum (ts : List TreeD) : bulkTs ts = ts.length + (ts.map bulkT).sum := by
  induction ts with
  | nil => simp [bulkTs]
  | cons t ts ih => simp [bulkTs, ih]; omega
def kidsTo (ts : List TreeD) (k : Nat) : Nat := ((ts.take k).map bulkT).sum
theorem kidsTo_succ (ts : List TreeD) (k : Nat) (h : k < ts.length) : kidsTo ts (k + 1) = kidsTo ts k + bulkT ts[k] := by
  unfold kidsTo; rw [List.take_succ_eq_append_getElem h, List.map_append, List.sum_append]; simp
theorem kidsTo_le (ts : List TreeD) (k : Nat) : ts.length + kidsTo ts k ≤ bulkTs ts := by
  rw [bulkTs_sum]; unfold kidsTo
  conv => rhs; rw [← List.take_append_drop k ts]
  rw [List.map_append, List.sum_append]; simp
theorem kidsTo_all (ts : List TreeD) : ts.length + kidsTo ts ts.length = bulkTs ts := by rw [bulkTs_sum]; unfold kidsTo; rw [List.take_length]

def SzS (ts : List TreeD) : Prop := ∀ (v : Value) (lo hi : Nat) (left : Int) (w : World), Kd false w lo hi v ts → hi ≤ w.heap.size → 0 ≤ left → left ≤ 1048576 →
  Calls Try.prog 60 #[v, .int .i64 left] w fun e w' => e = .returned (.int .i64 (szOut left (bulkTs ts))) ∧ Below w.heap.size w w'

set_option maxHeartbeats 1000000 in
theorem szTree_of (t : TreeD) (ih : SzS t.kids) (u : Value) (lo hi : Nat) (left : Int) (w : World) (hh : TopOk t) (h : Kd false w lo hi u t.kids) (hhi : hi ≤ w.heap.size) (h0 : 0 ≤ left) (h1 : left ≤ 1048576) :
    Calls Try.prog 21 #[trV t u, .int .i64 left] w fun e w' => e = .returned (.int .i64 (szOut left (bulkT t))) ∧ Below w.heap.size w w' := by
  have hh1 := hh.1
  unfold maxLen at hh1
  rw [bulkT_eq]
  unfold trV
  by_cases hn : left < t.tok.size
  · go_enter Try.func21, Try.ntmps21
    go_wp2
    go_ret
    exact ⟨ret_int (by rw [szOut_neg]; omega), al1 _ _⟩
  have d0 : decide (left - (t.tok.size : Int) < 0) = false := decide_eq_false (by omega)
  have hb : Below w.heap.size w (w.alloc (.cells #[.int .i64 t.rule, .string t.tok, u] 54)) := al1 _ _
  by_cases ht : left - (t.tok.size : Int) < bulkTs t.kids
  · have e1 : szOut (left - (t.tok.size : Int)) (bulkTs t.kids) = -1 := szOut_neg ht
    go_enter Try.func21, Try.ntmps21
    go_wp2_with (go_at_call 60; refine (ih u lo hi _ _ (h.under hb hhi) (by simp; omega) (by omega) (by omega)).mono ?_; rintro e w' ⟨rfl, hb2⟩; rw [e1])
    go_ret
    exact ⟨ret_int (by rw [szOut_neg]; omega), hb.trans (hb2.mono (by simp))⟩
  · have e1 : szOut (left - (t.tok.size : Int)) (bulkTs t.kids) = left - (t.tok.size : Int) - (bulkTs t.kids : Int) := szOut_pos ht
    have d1 : decide (left - (t.tok.size : Int) - (bulkTs t.kids : Int) < 0) = false := decide_eq_false (by omega)
    go_enter Try.func21, Try.ntmps21
    go_wp2_with (go_at_call 60; refine (ih u lo hi _ _ (h.under hb hhi) (by simp; omega) (by omega) (by omega)).mono ?_; rintro e w' ⟨rfl, hb2⟩; rw [e1])
    go_ret
    exact ⟨ret_int (by rw [szOut_pos (by omega)]; omega), hb.trans (hb2.mono (by simp))⟩

set_option maxHeartbeats 1000000 in
theorem szTreeS_of (ts : List TreeD) (ih : ∀ i (h : i < ts.length), SzS ts[i].kids) : SzS ts := by
  intro v lo hi left w h hhi h0 h1
  obtain ⟨A, c, U, rfl, hlc, hc, hs, hcell, hsub⟩ := h.parts
  unfold maxLen at hc
  have HC := Lib.hid hcell
  have HS := Lib.hid hs
  have HB := Lib.hid hsub
  clear hcell hs hsub h
  by_cases hn : left < ts.length
  · go_enter Try.func60, Try.ntmps60
    go_wp2
    go_ret
    exact ⟨ret_int (by rw [szOut_neg]; have := kidsTo_le ts 0; omega), Below.refl _ _⟩
  have d0 : decide (left - (ts.length : Int) < 0) = false := decide_eq_false (by omega)
  go_enter Try.func60, Try.ntmps60
  go_wp2
  go_loopw [1, 5] (fun l i wr => ∃ k : Nat, k ≤ ts.length ∧ i = .int .i64 k ∧ l = .int .i64 (left - (ts.length : Int) - (kidsTo ts k : Int)) ∧ 0 ≤ left - (ts.length : Int) - (kidsTo ts k : Int) ∧ Below w.heap.size w wr) (fun _ i _ => ts.length - (intOf i).toNat)
  case atStart => exact ⟨0, by omega, rfl, by simp [kidsTo], by simp [kidsTo]; omega, Below.refl _ _⟩
  case round =>
    obtain ⟨k, hk, rfl, rfl, hle, hbw⟩ := hrel
    have hsw := hbw.size
    by_cases hlt : k < ts.length
    · obtain ⟨b, off, rfl, _, hbh, _, hcc⟩ := HC.out (by omega)
      obtain ⟨hc0, hc1, hc2⟩ := hcc k hlt
      have hs := kidsTo_succ ts k hlt
      have HK := Lib.hid hs
      have hc0' := (hbw.cell (p := ⟨b, off + k * 3, none⟩) (by show b < _; omega)).trans hc0
      have hc1' := (hbw.cell (p := ⟨b, off + k * 3 + 1, none⟩) (by show b < _; omega)).trans hc1
      have hc2' := (hbw.cell (p := ⟨b, off + k * 3 + 2, none⟩) (by show b < _; omega)).trans hc2
      have hst' := (HB.out k hlt).under hbw hhi
      have htop : TopOk ts[k] := HS.out k hlt
      clear hs hcc hc0 hc1 hc2
      by_cases ht : left - (ts.length : Int) - (kidsTo ts k : Int) < ((bulkT ts[k] : Nat) : Int)
      · have e1 := szOut_neg ht
        have E1 := Lib.hid e1
        clear e1
        go_wp2_with (go_at_call 21; refine (szTree_of ts[k] (ih k hlt) (U k) lo hi _ _ htop hst' (by omega) (by omega) (by omega)).mono ?_; rintro e w' ⟨rfl, hb2⟩; rw [E1.out])
        go_ret
        exact ⟨ret_int (by rw [szOut_neg]; have := kidsTo_le ts (k + 1); have := HK.out; omega), hbw.trans (hb2.mono hsw)⟩
      · have e1 := szOut_pos ht
        have E1 := Lib.hid e1
        clear e1
        have d1 : decide (left - (ts.length : Int) - (kidsTo ts k : Int) - ((bulkT ts[k] : Nat) : Int) < 0) = false := decide_eq_false (by omega)
        go_wp2_with (go_at_call 21; refine (szTree_of ts[k] (ih k hlt) (U k) lo hi _ _ htop hst' (by omega) (by omega) (by omega)).mono ?_; rintro e w' ⟨rfl, hb2⟩; rw [E1.out])
        go_roundw
        case rel => exact ⟨k + 1, by omega, by go_num, by rw [HK.out]; go_num, by rw [HK.out]; omega, hbw.trans (hb2.mono hsw)⟩
        case measure => simp [intOf]; omega
    · have hks : k = ts.length := by omega
      have HK := Lib.hid hks
      clear hks
      go_wp2
      go_ret
      refine ⟨ret_int ?_, hbw⟩
      have e := HK.out
      subst e
      have := kidsTo_all ts
      rw [szOut_pos (by omega)]
      omega

/-- what is told of all lists from what is told of the lists below them -/
theorem kids_ind {p : List TreeD → Prop} (h : ∀ ts : List TreeD, (∀ i (h : i < ts.length), p ts[i].kids) → p ts) (ts : List TreeD) : p ts := by
  have key : ∀ n (ts : List TreeD), sizeTs ts ≤ n → p ts := by
    intro n
    induction n with
    | zero =>
      intro ts hs
      refine h ts fun i hi => ?_
      have := sizeTs_get ts i hi
      have := sizeT_eq ts[i]
      omega
    | succ n ih =>
      intro ts hs
      refine h ts fun i hi => ih _ ?_
      have := sizeTs_get ts i hi
      have := sizeT_eq ts[i]
      omega
  exact key _ ts (Nat.le_refl _)

theorem szTreeS_any (ts : List TreeD) : SzS ts := kids_ind szTreeS_of ts
theorem szTree_any (t : TreeD) (u : Value) (lo hi : Nat) (left : Int) (w : World) (hh : TopOk t) (h : Kd false w lo hi u t.kids) (hhi : hi ≤ w.heap.size) (h0 : 0 ≤ left) (h1 : left ≤ 1048576) :
    Calls Try.prog 21 #[trV t u, .int .i64 left] w fun e w' => e = .returned (.int .i64 (szOut left (bulkT t))) ∧ Below w.heap.size w w' :=
  szTree_of t (szTreeS_any _) u lo hi left w hh h hhi h0 h1
end Go.Proofs.Ytiochjagolijfaa

/- The model's sizes of a tree: spec.SizeOf, spec.l05Size. -/
namespace Go.Proofs.Ytiochjagolijfaa
open Go.RowKit

theorem tree_ind {p : TreeD → Prop} (h : ∀ t : TreeD, (∀ i (h : i < t.kids.length), p t.kids[i]) → p t) (t : TreeD) : p t :=
  h t (kids_ind (p := fun ts => ∀ i (h : i < ts.length), p ts[i]) (fun _ ih i hi => h _ (ih i hi)) t.kids)

end Go.Proofs.Ytiochjagolijfaa

/- Where a list of Kids lies, as a value and as a key: impl.placeOf. -/
namespace Go.Proofs.Ytiochjagolijfaa
open Go.RowKit

/-- a place: the first tree's address, and how many there are -/
abbrev Place := Addr × Nat
def plV (p : Place) : Value := .agg #[.pointer (some p.1), .int .i64 (p.2 : Int)]
def plOk (w : World) (p : Place) : Prop := FreeB w p.1.block

set_option maxRecDepth 100000 in
set_option maxHeartbeats 1000000 in
theorem placeOf_any (b off n c : Nat) (w : World) (hn : 0 < n) :
    Calls Try.prog 90 #[.slice (some ⟨b, off, none⟩) n c] w fun e w' => e = .returned (plV (⟨b, off, none⟩, n)) ∧ Below w.heap.size w w' := by
  unfold plV
  go_enter Try.func90, Try.ntmps90
  go_wp2
  refine bodyPost_ret (v := .agg #[.pointer (some ⟨b, off, none⟩), .int .i64 (n : Int)]) (by simp [results, Try.results90, go_sem]) rfl ⟨rfl, ?_⟩
  exact al1 _ _

theorem heldPlace : Try.prog.stoodInHeld 131 = false := by kernel_rfl
theorem und0 : Try.prog.underlying 129 = some (.pointer 59) := Try.underlying129
theorem cellsTree : Try.prog.cellsOf 59 = 3 := by kernel_rfl
theorem eqPtr (d : Nat) (w : World) (a b : Addr) (ha : FreeB w a.block) (hb : FreeB w b.block) : (Op.equalIn (d + 1) 129 (.pointer (some a)) (.pointer (some b))).run Try.prog w = .ok (decide (a = b)) w := by
  obtain ⟨ca, ta, ha⟩ := ha
  obtain ⟨cb, tb, hb⟩ := hb
  obtain ⟨i0, hi0, hz0⟩ : ∃ i, Try.prog.info? 59 = some i ∧ i.size = 3 := by
    have : (Try.prog.info? 59).map (·.size) = some 3 := by kernel_rfl
    cases h : Try.prog.info? 59 with
    | none => rw [h] at this; cases this
    | some i => rw [h] at this; exact ⟨i, rfl, by simpa using this⟩
  by_cases h : a = b
  · subst h
    simp [Op.equalIn, run_underlying und0, sizeOf, typeInfo, hi0, run_sameAddr_same]
  · simp [Op.equalIn, run_underlying und0, sizeOf, typeInfo, hi0, hz0, run_sameAddr_other w h ha hb, h]

theorem partPtr (w : World) (xs : Array Value) (k : Nat) (v : Value) (hv : xs[k]? = some v) : (part 129 xs k).run Try.prog w = .ok v w := by simp [part, isAgg, run_underlying und0, hv]
theorem partInt (w : World) (xs : Array Value) (k : Nat) (v : Value) (hv : xs[k]? = some v) : (part 3 xs k).run Try.prog w = .ok v w := by simp [part, isAgg, run_underlying Try.underlying3, hv]
theorem place_eq (p q : Place) : decide (p = q) = (decide (p.1 = q.1) && ((p.2 : Int) == (q.2 : Int))) := by
  obtain ⟨a, n⟩ := p
  obtain ⟨b, m⟩ := q
  rw [Bool.eq_iff_iff]
  simp
  intro _
  omega
theorem eqPlace (d : Nat) (w : World) (p q : Place) (hp : plOk w p) (hq : plOk w q) : (Op.equalIn (d + 2) 131 (plV p) (plV q)).run Try.prog w = .ok (decide (p = q)) w := by
  unfold plV
  rw [run_equalIn_struct w (d + 1) 131 _ _ (by rw [Program.fieldsOf, Try.underlying131]) heldPlace]
  have e1 := eqPtr d w p.1 q.1 hp hq
  have e2 := run_equalIn_int (P := Try.prog) w d 3 .i64 .i64 (p.2 : Int) (q.2 : Int) Try.underlying3
  simp only [Program.fieldsOf, Try.underlying131]
  rw [place_eq]
  have p1 := partPtr w #[.pointer (some p.1), .int .i64 (p.2 : Int)] 0 _ rfl
  have p2 := partPtr w #[.pointer (some q.1), .int .i64 (q.2 : Int)] 0 _ rfl
  have p3 := partInt w #[.pointer (some p.1), .int .i64 (p.2 : Int)] 1 _ rfl
  have p4 := partInt w #[.pointer (some q.1), .int .i64 (q.2 : Int)] 1 _ rfl
  by_cases h : p.1 = q.1
  · rw [decide_eq_true h] at e1 ⊢
    cases h2 : ((p.2 : Int) == (q.2 : Int))
    all_goals
      rw [h2] at e2
      simp [Op.eqFields, p1, p2, p3, p4, e1, e2]
  · rw [decide_eq_false h] at e1 ⊢
    simp [Op.eqFields, p1, p2, e1]
theorem chkPlace (e : Bool) (n : Nat) (w : World) (p : Place) : (Instr.checkKey e (n + 2) 131 (plV p)).run Try.prog w = .ok () w := by
  have p1 := partPtr w #[.pointer (some p.1), .int .i64 (p.2 : Int)] 0 _ rfl
  have p3 := partInt w #[.pointer (some p.1), .int .i64 (p.2 : Int)] 1 _ rfl
  simp [Instr.checkKey, plV, run_underlying Try.underlying131, p1, p3, run_underlying und0, run_underlying Try.underlying3]
theorem bitsPlace (n : Nat) (p : Place) : Instr.sameBits (n + 2) (plV p) (plV p) = true := by simp [plV, Instr.sameBits]
theorem keyPlace : KeyK Try.prog 131 plV plOk where
  und := ⟨_, Try.underlying131, fun _ _ => rfl⟩
  eq := fun w p q hp hq => by
    show (Op.equalIn (9998 + 2) _ _ _).run _ _ = _
    exact eqPlace 9998 w p q hp hq
  chk := fun w p e => by
    show (Instr.checkKey e (9998 + 2) _ _).run _ _ = _
    exact chkPlace e 9998 w p
  bits := fun p => bitsPlace 9998 p
end Go.Proofs.Ytiochjagolijfaa

/- Where a list of Kids lies, as a value and as a key: impl.placeOf. -/
namespace Go.Proofs.Ytiochjagolijfaa
open Go.RowKit

set_option maxRecDepth 100000 in
set_option maxHeartbeats 1000000 in
theorem placeOf_anyM (b off n c : Nat) (w : World) (hn : 0 < n) :
    Calls Try.prog 100 #[.slice (some ⟨b, off, none⟩) n c] w fun e w' => e = .returned (plV (⟨b, off, none⟩, n)) ∧ Below w.heap.size w w' := by
  unfold plV
  go_enter Try.func100, Try.ntmps100
  go_wp2
  refine bodyPost_ret (v := .agg #[.pointer (some ⟨b, off, none⟩), .int .i64 (n : Int)]) (by simp [results, Try.results100, go_sem]) rfl ⟨rfl, ?_⟩
  exact al1 _ _

theorem heldPlaceM : Try.prog.stoodInHeld 149 = false := by kernel_rfl
theorem und0M : Try.prog.underlying 135 = some (.pointer 47) := Try.underlying135
theorem cellsTreeM : Try.prog.cellsOf 47 = 3 := by kernel_rfl
theorem eqPtrM (d : Nat) (w : World) (a b : Addr) (ha : FreeB w a.block) (hb : FreeB w b.block) : (Op.equalIn (d + 1) 135 (.pointer (some a)) (.pointer (some b))).run Try.prog w = .ok (decide (a = b)) w := by
  obtain ⟨ca, ta, ha⟩ := ha
  obtain ⟨cb, tb, hb⟩ := hb
  obtain ⟨i0, hi0, hz0⟩ : ∃ i, Try.prog.info? 47 = some i ∧ i.size = 3 := by
    have : (Try.prog.info? 47).map (·.size) = some 3 := by kernel_rfl
    cases h : Try.prog.info? 47 with
    | none => rw [h] at this; cases this
    | some i => rw [h] at this; exact ⟨i, rfl, by simpa using this⟩
  by_cases h : a = b
  · subst h
    simp [Op.equalIn, run_underlying und0M, sizeOf, typeInfo, hi0, run_sameAddr_same]
  · simp [Op.equalIn, run_underlying und0M, sizeOf, typeInfo, hi0, hz0, run_sameAddr_other w h ha hb, h]

theorem partPtrM (w : World) (xs : Array Value) (k : Nat) (v : Value) (hv : xs[k]? = some v) : (part 135 xs k).run Try.prog w = .ok v w := by simp [part, isAgg, run_underlying und0M, hv]
theorem eqPlaceM (d : Nat) (w : World) (p q : Place) (hp : plOk w p) (hq : plOk w q) : (Op.equalIn (d + 2) 149 (plV p) (plV q)).run Try.prog w = .ok (decide (p = q)) w := by
  unfold plV
  rw [run_equalIn_struct w (d + 1) 149 _ _ (by rw [Program.fieldsOf, Try.underlying149]) heldPlaceM]
  have e1 := eqPtrM d w p.1 q.1 hp hq
  have e2 := run_equalIn_int (P := Try.prog) w d 3 .i64 .i64 (p.2 : Int) (q.2 : Int) Try.underlying3
  simp only [Program.fieldsOf, Try.underlying149]
  rw [place_eq]
  have p1 := partPtrM w #[.pointer (some p.1), .int .i64 (p.2 : Int)] 0 _ rfl
  have p2 := partPtrM w #[.pointer (some q.1), .int .i64 (q.2 : Int)] 0 _ rfl
  have p3 := partInt w #[.pointer (some p.1), .int .i64 (p.2 : Int)] 1 _ rfl
  have p4 := partInt w #[.pointer (some q.1), .int .i64 (q.2 : Int)] 1 _ rfl
  by_cases h : p.1 = q.1
  · rw [decide_eq_true h] at e1 ⊢
    cases h2 : ((p.2 : Int) == (q.2 : Int))
    all_goals
      rw [h2] at e2
      simp [Op.eqFields, p1, p2, p3, p4, e1, e2]
  · rw [decide_eq_false h] at e1 ⊢
    simp [Op.eqFields, p1, p2, e1]
theorem chkPlaceM (e : Bool) (n : Nat) (w : World) (p : Place) : (Instr.checkKey e (n + 2) 149 (plV p)).run Try.prog w = .ok () w := by
  have p1 := partPtrM w #[.pointer (some p.1), .int .i64 (p.2 : Int)] 0 _ rfl
  have p3 := partInt w #[.pointer (some p.1), .int .i64 (p.2 : Int)] 1 _ rfl
  simp [Instr.checkKey, plV, run_underlying Try.underlying149, p1, p3, run_underlying und0M, run_underlying Try.underlying3]
theorem bitsPlaceM (n : Nat) (p : Place) : Instr.sameBits (n + 2) (plV p) (plV p) = true := by simp [plV, Instr.sameBits]
theorem keyPlaceM : KeyK Try.prog 149 plV plOk where
  und := ⟨_, Try.underlying149, fun _ _ => rfl⟩
  eq := fun w p q hp hq => by
    show (Op.equalIn (9998 + 2) _ _ _).run _ _ = _
    exact eqPlaceM 9998 w p q hp hq
  chk := fun w p e => by
    show (Instr.checkKey e (9998 + 2) _ _).run _ _ = _
    exact chkPlaceM e 9998 w p
  bits := fun p => bitsPlaceM 9998 p
end Go.Proofs.Ytiochjagolijfaa
