import Derived.Test.YtiochjagolijfaaJGmf
import Derived.Test.YtiochjagolijfaaJShr
import Derived.Test.YtiochjagolijfaaJIszm
import Derived.Test.YtiochjagolijfaaJFixS
import Derived.Test.YtiochjagolijfaaJRnx
import Derived.Test.YtiochjagolijfaaJOi
/- One variable more in a list of a node's Kids; impl.variable. -/
namespace Go.Proofs.Ytiochjagolijfaa
open Go.RowKit

theorem term_news (w : World) (a b c : Value) : ∀ j u, [a, b, c][j]? = some u → (w.alloc (.cells #[a, b, c] 47)).cell? ((⟨w.heap.size, 0, none⟩ : Addr).add j) = some u :=
  World.news_of_block (cs := #[a, b, c]) (t := 47) (fr := (0, 0)) (heap_alloc_new _ _)
theorem term_one (a b : Int) (A : Option Addr) (n c : Nat) : ∀ u ∈ [Value.int .i64 a, .int .i64 b, .slice A n c], u.oneCell' = true := by
  intro u hu
  simp only [List.mem_cons, List.not_mem_nil, or_false] at hu
  rcases hu with rfl | rfl | rfl <;> rfl
/-- one variable more -/
theorem OneV.step {wx wr wc w6 : World} {g j gg capg dv : Nat} {Bv : Option Addr} {ki nu : Value} (hgl : g < wx.heap.size) (RG : Row wr g 47 #[ki, nu, .slice Bv j dv])
    (st : wr.ownsRow wx.heap.size 47 3 (.slice Bv j dv) j (flatV j)) (hm : Mid g (g + 1) wx wr) (bd : Below wr.heap.size wr wc)
    (hown : w6.ownsRow wx.heap.size 47 3 (.slice (some ⟨gg, 0, none⟩) (j + 1) capg) (j + 1) (flatV j ++ [.int .i64 2, .int .i64 (j : Int), .slice none 0 0])) (hg : (wc.alloc (.cells #[.int .i64 2, .int .i64 (j : Int), .slice none 0 0] 47)).grownBy w6 (Value.slice Bv j dv).ownBlock) :
    Row (w6.setCell ⟨g, 2, none⟩ (.slice (some ⟨gg, 0, none⟩) (j + 1) capg)) g 47 #[ki, nu, .slice (some ⟨gg, 0, none⟩) (j + 1) capg] ∧ (w6.setCell ⟨g, 2, none⟩ (.slice (some ⟨gg, 0, none⟩) (j + 1) capg)).ownsRow wx.heap.size 47 3 (.slice (some ⟨gg, 0, none⟩) (j + 1) capg) (j + 1) (flatV (j + 1)) ∧ Mid g (g + 1) wx (w6.setCell ⟨g, 2, none⟩ (.slice (some ⟨gg, 0, none⟩) (j + 1) capg)) := by
  have hgg := (hown.lt gg rfl).1
  have hb := bd.size
  have h1 := hm.size
  have h2 : wc.heap.size + 1 ≤ w6.heap.size := by have := hg.size; simpa using this
  have low : ∀ p, p < wx.heap.size → w6.heap[p]? = wr.heap[p]? := fun p hp => by
    rw [hg.block p (by simp; omega) (fun e => by have := (st.lt p e.symm).1; omega), Below.heap_alloc _ _ _ (by omega)]
    exact bd.block p (by omega)
  refine ⟨?_, ?_, hg.os.trans (bd.os.trans hm.os), hg.tape.trans (bd.tape.trans hm.tape), hg.output.trans (bd.output.trans hm.output), by simp [World.setCell]; omega, fun p p1 p2 => ?_⟩
  · have r : Row w6 g 47 #[ki, nu, .slice Bv j dv] := RG.same (low g hgl)
    simpa using r.put 2 (.slice (some ⟨gg, 0, none⟩) (j + 1) capg)
  · rw [flatV_succ]
    refine own_keep hown fun q hq => ?_
    obtain rfl : gg = q := by simpa [Value.ownBlock] using hq
    exact Below.heap_setCell _ _ _ _ (by show gg ≠ g; omega)
  · rw [Below.heap_setCell _ _ _ _ (by show p ≠ g; omega), low p p1]
    exact hm.block p p1 p2
end Go.Proofs.Ytiochjagolijfaa

/- A list of texts is appended to an empty one, in a region that draws its order; spec.l07Var. -/
namespace Go.Proofs.Ytiochjagolijfaa
open Go.RowKit

theorem step_append_body {w : World} {ops : Array Oper} {o : Oper} {a : Act} {K : Act → World → Prop} {Q : Exit → Act → World → Prop} {E : Prop} (hgd : o.guard = none) (s x : Operand)
    (ho : o.op = .call { callee := .builtin .append, args := #[s, x], argTypes := #[63, 63] })
    (j0 : TypeInfo) (hj0 : Try.prog.info? 9 = some j0) (hy0 : j0.zero = some (.string ByteArray.empty)) (hy1 : j0.size = 1) (hy2 : j0.bytes = 16)
    (base g0 lo hi : Nat) (hown : w.ownsRow base 9 1 (.slice (some ⟨g0, 0, none⟩) 0 0) 0 []) (A : Option Addr) (c : Nat) (ss : List ByteArray) (hst : Strs w lo hi (.slice A ss.length c) ss)
    (hs : a.eval s = .slice (some ⟨g0, 0, none⟩) 0 0) (hx : a.eval x = .slice A ss.length c) (hlen : ss.length ≤ 1048576) (hbase : base ≤ w.heap.size)
    (h : ∀ (B : Option Addr) (d : Nat) (w' : World), w'.ownsRow base 9 1 (.slice B ss.length d) ss.length (ss.map Value.string) → Mid g0 (g0 + 1) w w' → K (a.put o.dst (.slice B ss.length d)) w') :
    if Region.wanted o (yielded ops a.tmps) = true then Oper.wp Try.prog o a w K Q else E := by
  have hw : Region.wanted o (yielded ops a.tmps) = true := by simp [Region.wanted, hgd]
  rw [if_pos hw]
  by_cases h0 : ss.length = 0
  · obtain rfl : ss = [] := List.eq_nil_of_length_eq_zero h0
    have hsrc : Src Try.prog j0.size 63 (.slice A 0 c) 0 [] w := by
      cases A with
      | none => exact Src.ofNil w Try.underlying63 c
      | some ad => exact Src.ofSlice w Try.underlying63 ad 0 c [] (by simp) (by simp) (by simp)
    have hrun := run_append_nothing (P := Try.prog) w 63 63 o.type 9 j0 Try.underlying63 hj0 (some ⟨g0, 0, none⟩) 0 0 (Nat.le_refl _) (.slice A 0 c) hsrc
    have hx' : a.eval x = .slice A 0 c := hx
    unfold Oper.wp
    simp [execOp, ho, resolve, invoke, builtin, hs, hx', hrun, Result.andThen]
    exact h (some ⟨g0, 0, none⟩) 0 w hown (Mid.refl _ _ _)
  · have hp : 0 < ss.length := by omega
    obtain ⟨A', c', e, _, _, _, hcell⟩ := hst
    injection e with e1 _ e3
    subst e1 e3
    obtain ⟨b, off, rfl, _, _, hcc⟩ := hcell hp
    refine wp_append_own w s x 63 ho base 9 j0 _ 1 16 Try.underlying63 hj0 hy0 hy1 hy2 rfl (by decide) (.slice (some ⟨g0, 0, none⟩) 0 0) 0 [] hs hown ⟨b, off, none⟩ ss.length c (ss.map Value.string) hx (by simp) (fun j u hu => ?_) (fun u hu => ?_) (by unfold maxLen; omega) (by omega) hbase fun v1 w1 hown1 hg1 _ => ?_
    · rw [List.getElem?_map] at hu
      obtain ⟨t, ht, rfl⟩ := Option.map_eq_some_iff.1 hu
      obtain ⟨hj, rfl⟩ := List.getElem?_eq_some_iff.1 ht
      rw [show (⟨b, off, none⟩ : Addr).add j = ⟨b, off + j, none⟩ by unfold Addr.add; split <;> simp_all]
      exact hcc j hj
    · obtain ⟨t, _, rfl⟩ := List.mem_map.1 hu
      rfl
    · rw [Nat.zero_add, List.nil_append] at hown1
      have hv : ∃ B d, v1 = .slice B ss.length d := by
        rcases hown1.2 with ⟨_, hh⟩ | ⟨g, cap, cur, rfl, _⟩
        · exact absurd hh h0
        · exact ⟨_, _, rfl⟩
      obtain ⟨B, d, rfl⟩ := hv
      exact h B d w1 hown1 ⟨hg1.os, hg1.tape, hg1.output, hg1.size, fun k hk hkk => hg1.block k hk fun e => by
        have : k = g0 := by simpa [Value.ownBlock] using e
        omega⟩

end Go.Proofs.Ytiochjagolijfaa

/- A term copied: spec.l06Copy. -/
namespace Go.Proofs.Ytiochjagolijfaa
open Go.RowKit

/-- a term, the value of its Kids, and where these lie -/
structure Gt where
  t : TermD
  x : Value
  l : Nat
  e : Nat
def flatG (ys : List Gt) : List Value := ys.flatMap fun y => [.int .i64 y.t.kind, .int .i64 y.t.num, y.x]
theorem flatG_snoc (ys : List Gt) (y : Gt) : flatG (ys ++ [y]) = flatG ys ++ [.int .i64 y.t.kind, .int .i64 y.t.num, y.x] := by simp [flatG]
theorem flatG_at (ys : List Gt) (i : Nat) (h : i < ys.length) : (flatG ys)[i * 3]? = some (.int .i64 ys[i].t.kind) ∧ (flatG ys)[i * 3 + 1]? = some (.int .i64 ys[i].t.num) ∧ (flatG ys)[i * 3 + 2]? = some ys[i].x := by
  induction ys generalizing i with
  | nil => simp at h
  | cons y l ih =>
    have e : flatG (y :: l) = .int .i64 y.t.kind :: .int .i64 y.t.num :: y.x :: flatG l := rfl
    cases i with
    | zero => exact ⟨rfl, rfl, rfl⟩
    | succ i =>
      have := ih i (by simpa using h)
      rw [e, show (i + 1) * 3 = i * 3 + 1 + 1 + 1 by omega]
      simpa using this
structure GrowT (w : World) (base : Nat) (v : Value) (ys : List Gt) : Prop where
  row : w.ownsRow base 47 3 v ys.length (flatG ys)
  each : ∀ y ∈ ys, TopM y.t ∧ KM true w y.l y.e y.x y.t.kids ∧ base ≤ y.l ∧ y.l ≤ y.e ∧ y.e ≤ w.heap.size
  out : ∀ g, v.ownBlock = some g → ∀ y ∈ ys, g < y.l ∨ y.e ≤ g
theorem GrowT.km {w : World} {base : Nat} {v : Value} {ys : List Gt} (a : GrowT w base v ys) : KM true w base w.heap.size v (ys.map (·.t)) := by
  rcases a.row.2 with ⟨rfl, h0⟩ | ⟨g, cap, cur, rfl, hb, hh, hc, hm, hs, ht⟩
  · obtain rfl : ys = [] := List.eq_nil_of_length_eq_zero h0
    exact .mk none 0 [] (fun _ => .nilFunc) (Nat.le_refl _) (by unfold maxLen; omega) (by simp) (by simp) (by simp)
  · have hr : Row w g 47 cur := hh
    have cell : ∀ j, j < ys.length * 3 → cur[j]? = (flatG ys)[j]? := fun j hj => by rw [← ht, List.getElem?_take_of_lt hj, Array.getElem?_toList]
    have key : KM true w base w.heap.size (.slice (some ⟨g, 0, none⟩) (ys.map (·.t)).length cap) (ys.map (·.t)) := by
      refine .mk _ cap _ (fun i => (ys.getD i ⟨default, .nilFunc, 0, 0⟩).x) (by simpa using hc) hm (fun i hi => ?_) (fun _ => ⟨g, 0, rfl, hb, hr.lt, fun _ => ⟨_, _, hr⟩, fun i hi => ?_⟩) (fun i hi => ?_)
      · rw [List.getElem_map]
        exact (a.each _ (List.getElem_mem (by simpa using hi))).1
      · have hi' : i < ys.length := by simpa using hi
        obtain ⟨x1, x2, x3⟩ := flatG_at ys i hi'
        rw [List.getElem_map]
        exact ⟨by rw [Nat.zero_add, hr.cell, cell _ (by omega)]; exact x1, by rw [Nat.zero_add, hr.cell, cell _ (by omega)]; exact x2, by rw [Nat.zero_add, hr.cell, cell _ (by omega), x3]; simp [hi']⟩
      · have hi' : i < ys.length := by simpa using hi
        rw [List.getElem_map]
        obtain ⟨_, q2, q3, q4, q5⟩ := a.each _ (List.getElem_mem hi')
        have e : (ys.getD i ⟨default, .nilFunc, 0, 0⟩).x = ys[i].x := by simp [hi']
        rw [e]
        exact q2.more q3 q5
    rw [List.length_map] at key
    exact key
/-- what stands while a term is copied -/
structure CtI (w : World) (t : TermD) (u kv : Value) (ys : List Gt) (wx : World) : Prop where
  arg : Row wx w.heap.size 47 #[.int .i64 t.kind, .int .i64 t.num, u]
  res : Row wx (w.heap.size + 1) 47 #[.int .i64 0, .int .i64 0, .slice none 0 0]
  out : Row wx (w.heap.size + 2) 47 #[.int .i64 t.kind, .int .i64 t.num, kv]
  kids : GrowT wx (w.heap.size + 3) kv ys
  bel : Below w.heap.size w wx
theorem CtI.push {w wv w7 w6 : World} {t k : TermD} {u x7 : Value} {Ak : Option Addr} {n dk gg cap : Nat} {ys : List Gt} (I : CtI w t u (.slice Ak n dk) ys wv) (hn : ys.length = n) (b7 : Below wv.heap.size wv w7) (ht : TopM k) (hk : KM true w7 wv.heap.size w7.heap.size x7 k.kids)
    (ho : w6.ownsRow (w.heap.size + 3) 47 3 (.slice (some ⟨gg, 0, none⟩) (n + 1) cap) (n + 1) (flatG ys ++ [.int .i64 k.kind, .int .i64 k.num, x7])) (hg : (w7.alloc (.cells #[.int .i64 k.kind, .int .i64 k.num, x7] 47)).grownBy w6 (Value.slice Ak n dk).ownBlock)
    (hat : (Value.slice Ak n dk).ownBlock = some gg ∨ gg = w7.heap.size + 1) :
    CtI w t u (.slice (some ⟨gg, 0, none⟩) (n + 1) cap) (ys ++ [⟨k, x7, wv.heap.size, w7.heap.size⟩]) (w6.setCell ⟨w.heap.size + 2, 2, none⟩ (.slice (some ⟨gg, 0, none⟩) (n + 1) cap)) := by
  subst hn
  have h7 := b7.size
  have h6 : w7.heap.size + 1 ≤ w6.heap.size := by have := hg.size; simpa using this
  have hol := I.out.lt
  have own := fun q (e : (Value.slice Ak ys.length dk).ownBlock = some q) => I.kids.row.lt q e
  have hgg := (ho.lt gg rfl).1
  -- what stood in wv and is no own row stands
  have low : ∀ p, p < wv.heap.size → (Value.slice Ak ys.length dk).ownBlock ≠ some p → w6.heap[p]? = wv.heap[p]? := fun p hp hq => by
    rw [hg.block p (by simp; omega) (fun e => hq e.symm), Below.heap_alloc _ _ _ (by omega)]
    exact b7.block p hp
  have mid : ∀ p, wv.heap.size ≤ p → p < w7.heap.size → w6.heap[p]? = w7.heap[p]? := fun p h1 h2 => by
    rw [hg.block p (by simp; omega) (fun e => by have := (own p e.symm).2; omega), Below.heap_alloc _ _ _ h2]
  have set : ∀ p, p ≠ w.heap.size + 2 → (w6.setCell ⟨w.heap.size + 2, 2, none⟩ (.slice (some ⟨gg, 0, none⟩) (ys.length + 1) cap)).heap[p]? = w6.heap[p]? := fun p hp => Below.heap_setCell _ _ _ _ hp
  have small : ∀ p, p < w.heap.size + 3 → (Value.slice Ak ys.length dk).ownBlock ≠ some p := fun p hp e => by have := (own p e).1; omega
  have hsz : (w6.setCell ⟨w.heap.size + 2, 2, none⟩ (.slice (some ⟨gg, 0, none⟩) (ys.length + 1) cap)).heap.size = w6.heap.size := by simp [World.setCell]
  refine ⟨I.arg.same ((set _ (by omega)).trans (low _ (by omega) (small _ (by omega)))), I.res.same ((set _ (by omega)).trans (low _ (by omega) (small _ (by omega)))), ?_, ⟨?_, fun y hy => ?_, fun q hq y hy => ?_⟩, ?_⟩
  · have r : Row w6 (w.heap.size + 2) 47 _ := I.out.same (low _ (by omega) (small _ (by omega)))
    simpa using r.put 2 (.slice (some ⟨gg, 0, none⟩) (ys.length + 1) cap)
  · rw [flatG_snoc, List.length_append]
    refine own_keep ho fun q hq => ?_
    obtain rfl : gg = q := by simpa [Value.ownBlock] using hq
    exact set _ (by omega)
  · rw [hsz]
    rw [List.mem_append, List.mem_singleton] at hy
    rcases hy with hy | rfl
    · obtain ⟨a1, a2, a3, a4, a5⟩ := I.kids.each y hy
      refine ⟨a1, a2.keep fun p p1 p2 => (set p (by omega)).trans (low p (by omega) fun e => ?_), a3, a4, by omega⟩
      have := I.kids.out p e y hy
      omega
    · exact ⟨ht, hk.keep fun p p1 p2 => (set p (by omega)).trans (mid p p1 p2), by show w.heap.size + 3 ≤ wv.heap.size; omega, h7, by show w7.heap.size ≤ w6.heap.size; omega⟩
  · obtain rfl : gg = q := by simpa [Value.ownBlock] using hq
    rw [List.mem_append, List.mem_singleton] at hy
    rcases hat with e | rfl
    · rcases hy with hy | rfl
      · exact I.kids.out _ e y hy
      · exact .inl (own _ e).2
    · rcases hy with hy | rfl
      · have := (I.kids.each y hy).2.2.2.2; exact .inr (by omega)
      · exact .inr (by show w7.heap.size ≤ w7.heap.size + 1; omega)
  · refine Below.setCell (p := ⟨w.heap.size + 2, 2, none⟩) ⟨hg.os.trans (b7.os.trans I.bel.os), hg.tape.trans (b7.tape.trans I.bel.tape), hg.output.trans (b7.output.trans I.bel.output), by have := I.bel.size; omega, fun p hp => ?_⟩ (by show w.heap.size ≤ w.heap.size + 2; omega) _
    have hb := I.bel.size
    exact (low p (by omega) (small p (by omega))).trans (I.bel.block p hp)
end Go.Proofs.Ytiochjagolijfaa
