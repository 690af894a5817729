import Derived.Test.YtiochjagolijfaaLfg
import Derived.Test.YtiochjagolijfaaFru
import Derived.Lib.SliceRun
import Derived.Deep.Upon
import Derived.Test.YtiochjagolijfaaJOi
/- Mades are left out of a list of the call's own: slices.IndexFunc, slices.DeleteFunc. -/
namespace Go.Proofs.Ytiochjagolijfaa
open Go.RowKit

/-- the function literal, with the box of its map -/
abbrev goneV (q : Nat) : Value := .func (.func 44) #[] #[.pointer (some ⟨q, 0, none⟩)]
/-- what the function literal looks into -/
structure GnI (w : World) (q b : Nat) (ls : List MadeD) (f : HdF) : Prop where
  map : ByL w b ls f
  box : Row w q 78 #[.map (some b)]
  few : ls.length ≤ 1048576
theorem GnI.keep {w w' : World} {q b : Nat} {ls : List MadeD} {f : HdF} (h : GnI w q b ls f) (e1 : w'.heap[b]? = w.heap[b]?) (e2 : w'.heap[q]? = w.heap[q]?) : GnI w' q b ls f := ⟨h.map.keep e1, h.box.same e2, h.few⟩
theorem GnI.lt {w : World} {q b : Nat} {ls : List MadeD} {f : HdF} (h : GnI w q b ls f) : b < w.heap.size ∧ q < w.heap.size := ⟨h.map.lt, h.box.lt⟩
theorem GnI.below {w w' : World} {q b : Nat} {ls : List MadeD} {f : HdF} (h : GnI w q b ls f) (k : Below w.heap.size w w') : GnI w' q b ls f := h.keep (k.block _ h.lt.1) (k.block _ h.lt.2)
/-- how many of the first ones stay, up to the first that is left out -/
def firstGone (ls : List MadeD) : List MadeD → Option Nat
  | [] => none
  | m :: r => if goneB ls m = true then some 0 else (firstGone ls r).map (· + 1)
theorem GrowH.form {w : World} {base : Nat} {v : Value} {xs : List Gx} (a : GrowH w base v xs) : ∃ A c, v = .slice A xs.length c ∧ xs.length ≤ c ∧ c ≤ maxLen := by
  rcases a.row.2 with ⟨rfl, h0⟩ | ⟨g, cap, cur, rfl, _, _, hc, hm, _⟩
  · exact ⟨none, 0, by rw [h0], by omega, by unfold maxLen; omega⟩
  · exact ⟨_, _, rfl, hc, hm⟩
theorem GrowH.five {w : World} {base : Nat} {v : Value} {xs : List Gx} (a : GrowH w base v xs) {k : Nat} (hk : k < xs.length) :
    ∃ g c, v = .slice (some ⟨g, 0, none⟩) xs.length c ∧ base ≤ g ∧ g < w.heap.size ∧ w.cell? ⟨g, k * 5, none⟩ = some (.string xs[k].m.head) ∧ w.cell? ⟨g, k * 5 + 1, none⟩ = some xs[k].u ∧ w.cell? ⟨g, k * 5 + 2, none⟩ = some (.int .i64 xs[k].m.term.kind) ∧ w.cell? ⟨g, k * 5 + 3, none⟩ = some (.int .i64 xs[k].m.term.num) ∧ w.cell? ⟨g, k * 5 + 4, none⟩ = some xs[k].x := by
  rcases a.row.2 with ⟨_, h0⟩ | ⟨g, cap, cur, rfl, hg, hh, hc, hm, hs, ht⟩
  · omega
  · have hr : Row w g 67 cur := hh
    have cell : ∀ j, j < 5 → cur[k * 5 + j]? = xs[k].cells[j]? := fun j hj => by
      rw [← flatD_at xs k j hk hj, ← ht, List.getElem?_take_of_lt (by omega), Array.getElem?_toList]
    have c0 := cell 0 (by omega)
    rw [Nat.add_zero] at c0
    exact ⟨g, cap, rfl, hg, hr.lt, (hr.cell _).trans c0, (hr.cell _).trans (cell 1 (by omega)), (hr.cell _).trans (cell 2 (by omega)), (hr.cell _).trans (cell 3 (by omega)), (hr.cell _).trans (cell 4 (by omega))⟩

set_option maxRecDepth 100000 in
set_option maxHeartbeats 4000000 in
theorem indexFunc_any (v : Value) (xs : List Gx) (base q b : Nat) (ls : List MadeD) (f : HdF) (w : World) (h : GrowH w base v xs) (hb : base ≤ w.heap.size) (hI : GnI w q b ls f) (hn : xs.length ≤ 1048576) :
    Calls Try.prog 76 #[v, goneV q] w fun e w' => ∃ i : Int, e = .returned (.int .i64 i) ∧ ((i = -1 ∧ ∀ x ∈ xs, goneB ls x.m = false) ∨ ∃ k : Nat, i = k ∧ ∃ hk : k < xs.length, goneB ls xs[k].m = true ∧ ∀ j (hj : j < xs.length), j < k → goneB ls xs[j].m = false) ∧ Below w.heap.size w w' := by
  have HG := Lib.hid h
  have HI := Lib.hid hI
  obtain ⟨A, c, rfl, hlc, hc⟩ := h.form
  unfold maxLen at hc
  clear h hI
  unfold goneV
  go_enter Try.func76, Try.ntmps76
  go_wp2
  go_loopg [5, 8] xs.length (fun gk _ v8 wr => ∃ k : Nat, v8 = .int .i64 k ∧ k ≤ xs.length ∧ (∀ j (hj : j < xs.length), j < k → goneB ls xs[j].m = false) ∧ Below w.heap.size w wr ∧ gk = xs.length - k)
  case atStart => exact ⟨0, rfl, by omega, (fun j _ hj => by omega), Below.refl _ _, rfl⟩
  case round =>
    obtain ⟨k, rfl, hk, hall, hbw, rfl⟩ := hrel
    have hzw := hbw.size
    have HA := Lib.hid hall
    have HB := Lib.hid hbw
    by_cases hkl : k < xs.length
    · obtain ⟨g, c', e', hg1, hg2, c0, c1, c2, c3, c4⟩ := (HG.out.below hb hbw).five hkl
      injection e' with e1 _ e2
      subst e1 e2
      have hx := (HG.out.each _ (List.getElem_mem hkl)).keep (Keeps.below (lo := 0) hbw hb)
      have i1 : (k : Int) < (xs.length : Int) := by omega
      have HST := Lib.hid hx.body
      obtain ⟨Au, cu, eu, -⟩ := id hx.body
      obtain ⟨Ax, cx, Ux, ex, -⟩ := id hx.kids.parts
      rw [eu] at c1 HST
      rw [ex] at c4
      have HIR := Lib.hid (HI.out.below hbw)
      have HKL := Lib.hid hkl
      have hgw : g < wr.heap.size := by omega
      clear hall hbw hx eu ex hg2
      generalize hxk : xs[k].m = m at c0 c1 c2 c3 c4 HST
      have HXK := Lib.hid hxk
      clear hxk
      go_wp2_with fail
      refine (goneF_any m _ Ax m.term.kids.length cx b q 0 base ls f _ HST.out (by omega) HIR.out.map HIR.out.box).mono ?_
      rintro e w1 ⟨rfl, b1⟩
      have HB1 := Lib.hid (HB.out.trans (b1.mono hzw))
      clear b1
      cases hgn : goneB ls m with
      | true =>
        have HGN := Lib.hid hgn
        clear hgn
        go_wp2
        go_ret
        exact ⟨_, rfl, .inr ⟨k, rfl, HKL.out, (congrArg (goneB ls) HXK.out).trans HGN.out, HA.out⟩, HB1.out⟩
      | false =>
        have HGN := Lib.hid hgn
        clear hgn
        go_wp2
        go_roundg (xs.length - (k + 1))
        case rel => exact ⟨k + 1, by go_num, by omega, (fun j hj hjk => by
            by_cases e : j = k
            · subst e; exact (congrArg (goneB ls) HXK.out).trans HGN.out
            · exact HA.out j hj (by omega)), HB1.out, rfl⟩
        case measure => omega
    · clear hall hbw
      go_wp2
      go_ret
      exact ⟨-1, rfl, .inl ⟨rfl, fun x hx => by
        obtain ⟨j, hj, rfl⟩ := List.getElem_of_mem hx
        exact HA.out j hj (by omega)⟩, HB.out⟩
end Go.Proofs.Ytiochjagolijfaa

/- Mades are left out of a list of the call's own, on: clear; slices.DeleteFunc. -/
namespace Go.Proofs.Ytiochjagolijfaa
open Go.RowKit

theorem row_setCells {g : Nat} {T : TypeId} : ∀ (vs : List Value) (o : Nat) (w : World) (cur : Array Value), Row w g T cur → ∃ cur', Row (w.setCells g o vs) g T cur' ∧ cur'.size = cur.size ∧ ∀ p, p < o → cur'[p]? = cur[p]?
  | [], _, _, cur, h => ⟨cur, h, rfl, fun _ _ => rfl⟩
  | v :: r, o, w, cur, h => by
    obtain ⟨cur', h1, h2, h3⟩ := row_setCells r (o + 1) _ _ (h.put o v)
    exact ⟨cur', h1, by rw [h2]; simp, fun p hp => by rw [h3 p (by omega), Array.getElem?_setIfInBounds_ne (by omega)]⟩
theorem mid_setCells {g : Nat} : ∀ (vs : List Value) (o : Nat) (w : World), Mid g (g + 1) w (w.setCells g o vs) ∧ (w.setCells g o vs).heap.size = w.heap.size
  | [], _, w => ⟨Mid.refl _ _ _, rfl⟩
  | v :: r, o, w => by
    obtain ⟨h1, h2⟩ := mid_setCells r (o + 1) (w.setCell ⟨g, o, none⟩ v)
    exact ⟨((Mid.refl g (g + 1) w).setCell (p := ⟨g, o, none⟩) (Nat.le_refl _) (Nat.lt_succ_self _) v).trans h1, by show (World.setCells _ g (o + 1) r).heap.size = _; rw [h2]; simp [World.setCell]⟩
def madeZ : Value := .agg #[.string ByteArray.empty, .slice none 0 0, .int .i64 0, .int .i64 0, .slice none 0 0]
theorem zeroMade (w : World) : (zeroValue 67).run Try.prog w = .ok madeZ w := by kernel_rfl
theorem zeroCells_len (n : Nat) : (Builtin.zeroCells madeZ.cells n).toList.length = n * 5 := by simp [Builtin.zeroCells, madeZ, Value.cells]
theorem zeroCells_one (n : Nat) : ∀ v ∈ (Builtin.zeroCells madeZ.cells n).toList, v.oneCell' = true := by
  intro v hv
  simp only [Builtin.zeroCells, madeZ, Value.cells, Array.toList_map, List.mem_map] at hv
  obtain ⟨i, _, rfl⟩ := hv
  have h5 : i % 5 < 5 := Nat.mod_lt _ (by omega)
  show (#[Value.string ByteArray.empty, .slice none 0 0, .int .i64 0, .int .i64 0, .slice none 0 0][i % 5]!).oneCell' = true
  generalize i % 5 = r at h5 ⊢
  match r, h5 with
  | 0, _ => rfl
  | 1, _ => rfl
  | 2, _ => rfl
  | 3, _ => rfl
  | 4, _ => rfl
theorem run_clear_mades {w : World} {g i n c : Nat} {cur : Array Value} (hr : Row w g 67 cur) (hin : (i + n) * 5 ≤ cur.size) (hn : 0 < n) :
    ∃ w' cur', (∀ ty, (Builtin.clear_ #[24] ty #[.slice (some ⟨g, i * 5, none⟩) n c]).run Try.prog w = .ok (.tuple #[]) w') ∧ Row w' g 67 cur' ∧ cur'.size = cur.size ∧ (∀ p, p < i * 5 → cur'[p]? = cur[p]?) ∧ Mid g (g + 1) w w' ∧ w'.heap.size = w.heap.size := by
  obtain ⟨cur', h1, h2, h3⟩ := row_setCells (Builtin.zeroCells madeZ.cells n).toList (i * 5) w cur hr
  obtain ⟨h4, h5⟩ := mid_setCells (g := g) (Builtin.zeroCells madeZ.cells n).toList (i * 5) w
  refine ⟨_, cur', fun ty => ?_, h1, h2, h3, h4, h5⟩
  have hst := run_storeCells_cells (P := Try.prog) g (i * 5) (Builtin.zeroCells madeZ.cells n).toList 0 w
    (fun j hj => by
      rw [zeroCells_len] at hj
      rw [hr.cell, Nat.add_zero, Array.getElem?_eq_getElem (by omega)]
      rfl)
    (fun j _ => hr.free _) (zeroCells_one n)
  simp only [Nat.add_zero] at hst
  obtain ⟨m, rfl⟩ : ∃ m, n = m + 1 := ⟨n - 1, by omega⟩
  have hst' : (storeCells ⟨g, i * 5, none⟩ (Builtin.zeroCells (Value.agg #[.string ⟨#[]⟩, .slice none 0 0, .int .i64 0, .int .i64 0, .slice none 0 0]).cells (m + 1)).toList).run Try.prog w = .ok () (w.setCells g (i * 5) (Builtin.zeroCells madeZ.cells (m + 1)).toList) := hst
  simp [Builtin.clear_, run_underlying Try.underlying24, hst']

/-- what stays -/
def stays (ls : List MadeD) (xs : List Gx) : List Gx := xs.filter fun x => !goneB ls x.m
theorem stays_all {ls : List MadeD} {xs : List Gx} (h : ∀ x ∈ xs, goneB ls x.m = false) : stays ls xs = xs := by
  unfold stays
  rw [List.filter_eq_self]
  intro x hx
  rw [h x hx]; rfl
theorem stays_no {ls : List MadeD} {xs : List Gx} {k : Nat} (h : k < xs.length) (g : goneB ls xs[k].m = true) : stays ls (xs.take (k + 1)) = stays ls (xs.take k) := by
  unfold stays
  rw [List.take_succ_eq_append_getElem h, List.filter_append]
  simp [g]
theorem stays_yes {ls : List MadeD} {xs : List Gx} {k : Nat} (h : k < xs.length) (g : goneB ls xs[k].m = false) : stays ls (xs.take (k + 1)) = stays ls (xs.take k) ++ [xs[k]] := by
  unfold stays
  rw [List.take_succ_eq_append_getElem h, List.filter_append]
  simp [g]
theorem stays_len (ls : List MadeD) (xs : List Gx) : (stays ls xs).length ≤ xs.length := List.length_filter_le _ _
theorem stays_mades (ls : List MadeD) (xs : List Gx) : (stays ls xs).map (·.m) = (xs.map (·.m)).filter fun m => !goneB ls m := by
  unfold stays
  rw [List.filter_map]
  rfl
/-- the first ones are laid, the rest stands as it stood -/
structure DlI (w wr : World) (g c n i j : Nat) (ls : List MadeD) (xs : List Gx) (cur : Array Value) : Prop where
  row : Row wr g 67 cur
  size : cur.size = c * 5
  len : (stays ls (xs.take j)).length = i
  front : ∀ p, p < i * 5 → cur[p]? = (flatD (stays ls (xs.take j)))[p]?
  rest : ∀ p, j * 5 ≤ p → p < n * 5 → cur[p]? = (flatD xs)[p]?
  mid : Mid g (g + 1) w wr
end Go.Proofs.Ytiochjagolijfaa

/- A term that came in, laid anew: toTermS, toTerm. -/
namespace Go.Proofs.Ytiochjagolijfaa
open Go.RowKit

/-- a list of terms in memory of the call's own -/
def OwnM (w : World) (lo hi : Nat) (v : Value) (ts : List TermD) : Prop := KM true w lo hi v ts ∧ ShM w lo hi v ts ∧ OI w lo hi v ts
theorem OwnM.keep {w w' : World} {lo hi : Nat} {v : Value} {ts : List TermD} (h : OwnM w lo hi v ts) (k : Keeps lo hi w w') : OwnM w' lo hi v ts := ⟨h.1.keep k, h.2.1.keep k, h.2.2.keep k⟩
theorem OwnM.more {w : World} {lo hi lo' hi' : Nat} {v : Value} {ts : List TermD} (h : OwnM w lo hi v ts) (g1 : lo' ≤ lo) (g2 : hi ≤ hi') : OwnM w lo' hi' v ts := ⟨h.1.more g1 g2, h.2.1.more g1 g2, h.2.2.more g1 g2⟩

def ToM (ts : List TermD) : Prop := ∀ (v : Value) (lo hi : Nat) (w : World), KM false w lo hi v ts → hi ≤ w.heap.size → sizeMs ts ≤ 1048576 →
  Calls Try.prog 81 #[v] w fun e w' => ∃ u, e = .returned u ∧ OwnM w' w.heap.size w'.heap.size u ts ∧ Below w.heap.size w w'

set_option maxHeartbeats 1000000 in
theorem toTerm_of (t : TermD) (ih : ToM t.kids) (u : Value) (lo hi : Nat) (w : World) (h : KM false w lo hi u t.kids) (hhi : hi ≤ w.heap.size) (hn : sizeMs t.kids ≤ 1048576) :
    Calls Try.prog 51 #[tmV t u] w fun e w' => ∃ x, e = .returned (tmV t x) ∧ OwnM w' w.heap.size w'.heap.size x t.kids ∧ Below w.heap.size w w' := by
  unfold tmV
  go_enter Try.func51, Try.ntmps51
  go_wp2_with fail
  refine (ih u lo hi _ (h.under (B := w.heap.size) (al3 _ _ _ _) hhi) (by simp; omega) (by omega)).mono ?_
  rintro e w1 ⟨x, rfl, hown, hb⟩
  have hb0 : Below w.heap.size w w1 := (al3 _ _ _ _).trans (hb.mono (by simp; omega))
  have R1 : Row w1 (w.heap.size + 1) 47 #[.int .i64 0, .int .i64 0, .slice none 0 0] := by
    refine Row.below (Row.alloc ?_ _) hb (by simp)
    simpa using Row.made (w.alloc (.cells #[.int .i64 t.kind, .int .i64 t.num, u] 37)) 47 #[.int .i64 0, .int .i64 0, .slice none 0 0]
  have R2 : Row w1 (w.heap.size + 1 + 1) 47 #[.int .i64 t.kind, .int .i64 t.num, .slice none 0 0] := by
    refine Row.below ?_ hb (by simp)
    simpa using Row.made ((w.alloc (.cells #[.int .i64 t.kind, .int .i64 t.num, u] 37)).alloc (.cells #[.int .i64 0, .int .i64 0, .slice none 0 0] 47)) 47 #[.int .i64 t.kind, .int .i64 t.num, .slice none 0 0]
  have hown' : OwnM w1 (w.heap.size + 1 + 1 + 1) w1.heap.size x t.kids := by simpa using hown
  clear hb hown
  have c10 := R1.cell 0
  have c11 := R1.cell 1
  have c12 := R1.cell 2
  have c20 := R2.cell 0
  have c21 := R2.cell 1
  have c22 := R2.cell 2
  simp at c10 c11 c12 c20 c21 c22
  have f10 := R1.free 0
  have f11 := R1.free 1
  have f12 := R1.free 2
  have f20 := R2.free 0
  have f21 := R2.free 1
  have f22 := R2.free 2
  clear R1 R2
  have HO := Lib.hid hown'
  obtain ⟨A, c, U, rfl, -⟩ := hown'.1.parts
  clear hown' h
  go_wp2
  refine bodyPost_ret (v := .agg #[.int .i64 t.kind, .int .i64 t.num, .slice A t.kids.length c]) (by simp [results, Try.results51, go_sem, c10, c11, c12]) rfl ⟨_, rfl, ?_, ?_⟩
  · refine (HO.out.keep ?_).more (by omega) (by simp [World.setCell])
    intro k h1 h2
    rw [Below.heap_setCell _ _ _ _ (by simp; omega), Below.heap_setCell _ _ _ _ (by simp; omega), Below.heap_setCell _ _ _ _ (by simp; omega), Below.heap_setCell _ _ _ _ (by simp; omega)]
  · exact (((hb0.setCell (by simp; omega) _).setCell (by simp) _).setCell (by simp) _).setCell (by simp) _
end Go.Proofs.Ytiochjagolijfaa
