import Derived.Test.YtiochjagolijfaaJGmd
import Derived.Test.YtiochjagolijfaaJUseI
import Derived.Test.YtiochjagolijfaaJShr
import Derived.Test.YtiochjagolijfaaJIadm
import Derived.Test.YtiochjagolijfaaJFixS
/- A list of Mades that grows by append; what hangs from each stands in blocks of its own, or ahead of all. Their Kids are variables. No program stands in this text but its types' numbers. -/
namespace Go.Proofs.Ytiochjagolijfaa
open Go.RowKit

structure GyAt (w : World) (base : Nat) (x : Gx) : Prop where
  head : x.m.head.size ≤ maxLen
  top : TopM x.m.term
  body : ∃ bl bh, Strs w bl bh x.u x.m.body ∧ (bh ≤ base ∨ (x.e ≤ bl ∧ bh ≤ x.h))
  kids : OI w x.l x.e x.x x.m.term.kids
  ord : base ≤ x.l ∧ x.l ≤ x.e ∧ x.e ≤ x.h ∧ x.h ≤ w.heap.size
theorem GyAt.keep {w w' : World} {base : Nat} {x : Gx} (a : GyAt w base x) (hs : w.heap.size ≤ w'.heap.size) (k0 : Keeps 0 base w w') (k : Keeps x.l x.h w w') : GyAt w' base x where
  head := a.head
  top := a.top
  body := by
    obtain ⟨bl, bh, h1, h2⟩ := a.body
    refine ⟨bl, bh, h1.keep ?_, h2⟩
    rcases h2 with h2 | ⟨h2, h3⟩
    · exact k0.mono (Nat.zero_le _) h2
    · exact k.mono (by have := a.ord; omega) h3
  kids := a.kids.keep (k.mono (Nat.le_refl _) a.ord.2.2.1)
  ord := ⟨a.ord.1, a.ord.2.1, a.ord.2.2.1, Nat.le_trans a.ord.2.2.2 hs⟩
structure GrowF (w : World) (base : Nat) (v : Value) (xs : List Gx) : Prop where
  row : w.ownsRow base 67 5 v xs.length (flatD xs)
  each : ∀ x ∈ xs, GyAt w base x
  pair : xs.Pairwise fun a b => a.h ≤ b.l
  out : ∀ g, v.ownBlock = some g → ∀ x ∈ xs, g < x.l ∨ x.h ≤ g
theorem GrowF.nil (w : World) (base : Nat) : GrowF w base (.slice none 0 0) [] := ⟨World.ownsRow_nil _ _ _ _, by simp, List.Pairwise.nil, by simp⟩
theorem GrowF.move {w w' : World} {base : Nat} {v : Value} {xs : List Gx} (a : GrowF w base v xs) (hs : w.heap.size ≤ w'.heap.size)
    (h1 : ∀ g, v.ownBlock = some g → w'.heap[g]? = w.heap[g]?) (h2 : ∀ x ∈ xs, Keeps x.l x.h w w') (h0 : Keeps 0 base w w') : GrowF w' base v xs where
  row := by
    refine ⟨a.row.1, ?_⟩
    rcases a.row.2 with a2 | ⟨g, cap, cur, rfl, hb, hh, r⟩
    · exact .inl a2
    · exact .inr ⟨g, cap, cur, rfl, hb, (h1 g rfl).trans hh, r⟩
  each := fun x hx => (a.each x hx).keep hs h0 (h2 x hx)
  pair := a.pair
  out := a.out
theorem GrowF.below {w w' : World} {base : Nat} {v : Value} {xs : List Gx} (a : GrowF w base v xs) (hb : base ≤ w.heap.size) (k : Below w.heap.size w w') : GrowF w' base v xs :=
  a.move k.size (fun g hg => k.block g (a.row.lt g hg).2) (fun x hx p _ hp => k.block p (by have := (a.each x hx).ord; omega)) fun p _ hp => k.block p (by omega)
theorem GrowF.snoc {w w' : World} {base g cap : Nat} {v : Value} {xs : List Gx} {y : Gx} (a : GrowF w base v xs) (hy : GyAt w base y) (hx : ∀ x ∈ xs, x.h ≤ y.l) (hv : ∀ q, v.ownBlock = some q → q < y.l)
    (ho : w'.ownsRow base 67 5 (.slice (some ⟨g, 0, none⟩) (xs.length + 1) cap) (xs.length + 1) (flatD xs ++ y.cells)) (hg : w.grownBy w' v.ownBlock) (hat : v.ownBlock = some g ∨ g = w.heap.size) :
    GrowF w' base (.slice (some ⟨g, 0, none⟩) (xs.length + 1) cap) (xs ++ [y]) where
  row := by rw [flatD_snoc, List.length_append]; exact ho
  each := fun x hm => by
    rw [List.mem_append, List.mem_singleton] at hm
    rcases hm with hm | rfl
    · refine (a.each x hm).keep hg.size (fun p _ p2 => hg.block p (by have := (a.each x hm).ord; omega) fun e => by have := (a.row.lt p e.symm).1; omega) fun p p1 p2 => hg.block p (by have := (a.each x hm).ord; omega) fun e => ?_
      have := a.out p e.symm x hm
      omega
    · refine hy.keep hg.size (fun p _ p2 => hg.block p (by have := hy.ord; omega) fun e => by have := (a.row.lt p e.symm).1; omega) fun p p1 p2 => hg.block p (by have := hy.ord; omega) fun e => ?_
      have := hv p e.symm
      omega
  pair := by
    rw [List.pairwise_append]
    refine ⟨a.pair, by simp, fun x h1 z h2 => ?_⟩
    rw [List.mem_singleton] at h2
    subst h2
    exact hx x h1
  out := fun q hq x hm => by
    obtain rfl : g = q := by simpa [Value.ownBlock] using hq
    rw [List.mem_append, List.mem_singleton] at hm
    rcases hat with e | rfl
    · rcases hm with hm | rfl
      · exact a.out _ e x hm
      · exact .inl (hv _ e)
    · rcases hm with hm | rfl
      · exact .inr (a.each x hm).ord.2.2.2
      · exact .inr hy.ord.2.2.2
/-- what it reads as -/
theorem GrowF.dm {w : World} {base : Nat} {v : Value} {xs : List Gx} (a : GrowF w base v xs) : DM true w 0 w.heap.size v (xs.map (·.m)) := by
  rcases a.row.2 with ⟨rfl, h0⟩ | ⟨g, cap, cur, rfl, hb, hh, hc, hm, hs, ht⟩
  · obtain rfl : xs = [] := List.eq_nil_of_length_eq_zero h0
    exact ⟨none, 0, rfl, Nat.le_refl _, by unfold maxLen; omega, fun h => by simp at h⟩
  · have hr : Row w g 67 cur := hh
    refine ⟨some ⟨g, 0, none⟩, cap, by simp, by simpa using hc, hm, fun hp => ⟨g, 0, rfl, Nat.zero_le _, hr.lt, fun _ => ⟨_, _, hr⟩, fun i hi => ?_⟩⟩
    have hi' : i < xs.length := by simpa using hi
    have q := a.each xs[i] (List.getElem_mem hi')
    have cell : ∀ j, j < 5 → cur[i * 5 + j]? = xs[i].cells[j]? := fun j hj => by
      rw [← flatD_at xs i j hi' hj, ← ht, List.getElem?_take_of_lt (by omega), Array.getElem?_toList]
    rw [List.getElem_map]
    have c0 := cell 0 (by omega)
    rw [Nat.add_zero] at c0
    refine ⟨q.head, q.top, by rw [Nat.zero_add, hr.cell, c0]; rfl, xs[i].u, xs[i].x, ?_, ?_, ?_, ?_, ?_, q.kids.km.more (Nat.zero_le _) (by have := q.ord; omega)⟩
    · rw [Nat.zero_add, hr.cell, cell 1 (by omega)]; rfl
    · rw [Nat.zero_add, hr.cell, cell 2 (by omega)]; rfl
    · rw [Nat.zero_add, hr.cell, cell 3 (by omega)]; rfl
    · rw [Nat.zero_add, hr.cell, cell 4 (by omega)]; rfl
    · obtain ⟨bl, bh, h1, h2⟩ := q.body
      exact h1.more (Nat.zero_le _) (by have := q.ord; omega)

/-- variables, in order -/
def varsD (n : Nat) : List TermD := (List.range n).map fun (i : Nat) => .node 2 (i : Int) []
theorem varsD_len (n : Nat) : (varsD n).length = n := by simp [varsD]
theorem varsD_at (n i : Nat) (h : i < (varsD n).length) : (varsD n)[i] = .node 2 (i : Int) [] := by simp [varsD]
theorem varsD_size (n : Nat) : sizeMs (varsD n) = n := by
  induction n with
  | zero => simp [varsD, sizeMs]
  | succ n ih =>
    unfold varsD at ih ⊢
    rw [List.range_succ, List.map_append, sizeMs_append, ih]
    simp [sizeMs, sizeM_eq, TermD.kids]
def flatV (n : Nat) : List Value := (List.range n).flatMap fun (i : Nat) => [.int .i64 2, .int .i64 (i : Int), .slice none 0 0]
theorem flatV_succ (n : Nat) : flatV (n + 1) = flatV n ++ [.int .i64 2, .int .i64 (n : Int), .slice none 0 0] := by simp [flatV, List.range_succ]
theorem flatV_len (n : Nat) : (flatV n).length = n * 3 := by
  induction n with
  | zero => rfl
  | succ n ih => rw [flatV_succ, List.length_append, ih]; simp; omega
theorem flatV_at (n i : Nat) (h : i < n) : (flatV n)[i * 3]? = some (.int .i64 2) ∧ (flatV n)[i * 3 + 1]? = some (.int .i64 (i : Int)) ∧ (flatV n)[i * 3 + 2]? = some (.slice none 0 0) := by
  induction n with
  | zero => omega
  | succ n ih =>
    have hl := flatV_len n
    rw [flatV_succ]
    by_cases e : i = n
    · subst e
      refine ⟨?_, ?_, ?_⟩
      · rw [List.getElem?_append_right (by omega), hl, Nat.sub_self]; rfl
      · rw [List.getElem?_append_right (by omega), hl, show i * 3 + 1 - i * 3 = 1 by omega]; rfl
      · rw [List.getElem?_append_right (by omega), hl, show i * 3 + 2 - i * 3 = 2 by omega]; rfl
    · obtain ⟨a, b, c⟩ := ih (by omega)
      refine ⟨?_, ?_, ?_⟩
      · rw [List.getElem?_append_left (by omega)]; exact a
      · rw [List.getElem?_append_left (by omega)]; exact b
      · rw [List.getElem?_append_left (by omega)]; exact c
/-- variables that were appended one by one -/
theorem vars_oi {w : World} {base n : Nat} {v : Value} (h : w.ownsRow base 47 3 v n (flatV n)) (hn : n ≤ 2097152) : OI w base w.heap.size v (varsD n) := by
  rcases h.2 with ⟨rfl, h0⟩ | ⟨g, cap, cur, rfl, hb, hh, hc, hm, hs, ht⟩
  · subst h0
    exact OI.none w _ _ 0 none (by unfold maxLen; omega)
  · have hr : Row w g 47 cur := hh
    have cell : ∀ j, j < n * 3 → cur[j]? = (flatV n)[j]? := fun j hj => by rw [← ht, List.getElem?_take_of_lt hj, Array.getElem?_toList]
    have key : OI w base w.heap.size (.slice (some ⟨g, 0, none⟩) (varsD n).length cap) (varsD n) := by
      refine .mk _ _ _ cap _ (fun _ => .slice none 0 0) (fun _ => base) (fun _ => base) (by rw [varsD_len]; exact hc) hm (fun i hi => ?_) (fun _ => ⟨g, cur, rfl, hb, hr.lt, hr, by rw [varsD_len]; omega, fun i hi => ?_⟩) (fun i hi => ⟨Nat.le_refl _, Nat.le_refl _, by have := hr.lt; omega⟩) (fun i j _ _ _ => .inl (Nat.le_refl _)) (fun i hi => ?_)
      · rw [varsD_at]
        rw [varsD_len] at hi
        unfold TopM
        simp only [TermD.num, TermD.kind]
        omega
      · rw [varsD_at]
        rw [varsD_len] at hi
        obtain ⟨a, b, c⟩ := flatV_at n i hi
        exact ⟨by rw [cell _ (by omega)]; exact a, by rw [cell _ (by omega)]; exact b, by rw [cell _ (by omega)]; exact c, .inl hb⟩
      · rw [varsD_at]
        exact OI.none w _ _ 0 none (by unfold maxLen; omega)
    rw [varsD_len] at key
    exact key
/-- the Made of a Rule, and those of the useful ones -/
def givenD (rs : List RuleD) (n : Nat) : MadeD := ⟨(ruleAt rs n).head, (ruleAt rs n).body, .node 1 (n : Int) (varsD (ruleAt rs n).body.length)⟩
noncomputable def givenOf (rs : List RuleD) : List MadeD := (useOf rs).map (givenD rs)
end Go.Proofs.Ytiochjagolijfaa

/- One variable more in a list of a node's Kids; impl.variable. -/
namespace Go.Proofs.Ytiochjagolijfaa
open Go.RowKit

theorem term_news (w : World) (a b c : Value) : ∀ j u, [a, b, c][j]? = some u → (w.alloc (.cells #[a, b, c] 47)).cell? ((⟨w.heap.size, 0, none⟩ : Addr).add j) = some u :=
  World.news_of_block (cs := #[a, b, c]) (t := 47) (fr := (0, 0)) (heap_alloc_new _ _)
theorem term_one (a b : Int) (A : Option Addr) (n c : Nat) : ∀ u ∈ [Value.int .i64 a, .int .i64 b, .slice A n c], u.oneCell' = true := by
  intro u hu
  simp only [List.mem_cons, List.not_mem_nil, or_false] at hu
  rcases hu with rfl | rfl | rfl <;> rfl
/-- one variable more -/
theorem OneV.step {wx wr wc w6 : World} {g j gg capg dv : Nat} {Bv : Option Addr} {ki nu : Value} (hgl : g < wx.heap.size) (RG : Row wr g 47 #[ki, nu, .slice Bv j dv])
    (st : wr.ownsRow wx.heap.size 47 3 (.slice Bv j dv) j (flatV j)) (hm : Mid g (g + 1) wx wr) (bd : Below wr.heap.size wr wc)
    (hown : w6.ownsRow wx.heap.size 47 3 (.slice (some ⟨gg, 0, none⟩) (j + 1) capg) (j + 1) (flatV j ++ [.int .i64 2, .int .i64 (j : Int), .slice none 0 0])) (hg : (wc.alloc (.cells #[.int .i64 2, .int .i64 (j : Int), .slice none 0 0] 47)).grownBy w6 (Value.slice Bv j dv).ownBlock) :
    Row (w6.setCell ⟨g, 2, none⟩ (.slice (some ⟨gg, 0, none⟩) (j + 1) capg)) g 47 #[ki, nu, .slice (some ⟨gg, 0, none⟩) (j + 1) capg] ∧ (w6.setCell ⟨g, 2, none⟩ (.slice (some ⟨gg, 0, none⟩) (j + 1) capg)).ownsRow wx.heap.size 47 3 (.slice (some ⟨gg, 0, none⟩) (j + 1) capg) (j + 1) (flatV (j + 1)) ∧ Mid g (g + 1) wx (w6.setCell ⟨g, 2, none⟩ (.slice (some ⟨gg, 0, none⟩) (j + 1) capg)) := by
  have hgg := (hown.lt gg rfl).1
  have hb := bd.size
  have h1 := hm.size
  have h2 : wc.heap.size + 1 ≤ w6.heap.size := by have := hg.size; simpa using this
  have low : ∀ p, p < wx.heap.size → w6.heap[p]? = wr.heap[p]? := fun p hp => by
    rw [hg.block p (by simp; omega) (fun e => by have := (st.lt p e.symm).1; omega), Below.heap_alloc _ _ _ (by omega)]
    exact bd.block p (by omega)
  refine ⟨?_, ?_, hg.os.trans (bd.os.trans hm.os), hg.tape.trans (bd.tape.trans hm.tape), hg.output.trans (bd.output.trans hm.output), by simp [World.setCell]; omega, fun p p1 p2 => ?_⟩
  · have r : Row w6 g 47 #[ki, nu, .slice Bv j dv] := RG.same (low g hgl)
    simpa using r.put 2 (.slice (some ⟨gg, 0, none⟩) (j + 1) capg)
  · rw [flatV_succ]
    refine own_keep hown fun q hq => ?_
    obtain rfl : gg = q := by simpa [Value.ownBlock] using hq
    exact Below.heap_setCell _ _ _ _ (by show gg ≠ g; omega)
  · rw [Below.heap_setCell _ _ _ _ (by show p ≠ g; omega), low p p1]
    exact hm.block p p1 p2
end Go.Proofs.Ytiochjagolijfaa

/- A list of texts is appended to an empty one, in a region that draws its order; spec.l07Var. -/
namespace Go.Proofs.Ytiochjagolijfaa
open Go.RowKit

theorem step_append_body {w : World} {ops : Array Oper} {o : Oper} {a : Act} {K : Act → World → Prop} {Q : Exit → Act → World → Prop} {E : Prop} (hgd : o.guard = none) (s x : Operand)
    (ho : o.op = .call { callee := .builtin .append, args := #[s, x], argTypes := #[63, 63] })
    (j0 : TypeInfo) (hj0 : Try.prog.info? 9 = some j0) (hy0 : j0.zero = some (.string ByteArray.empty)) (hy1 : j0.size = 1) (hy2 : j0.bytes = 16)
    (base g0 lo hi : Nat) (hown : w.ownsRow base 9 1 (.slice (some ⟨g0, 0, none⟩) 0 0) 0 []) (A : Option Addr) (c : Nat) (ss : List ByteArray) (hst : Strs w lo hi (.slice A ss.length c) ss)
    (hs : a.eval s = .slice (some ⟨g0, 0, none⟩) 0 0) (hx : a.eval x = .slice A ss.length c) (hlen : ss.length ≤ 1048576) (hbase : base ≤ w.heap.size)
    (h : ∀ (B : Option Addr) (d : Nat) (w' : World), w'.ownsRow base 9 1 (.slice B ss.length d) ss.length (ss.map Value.string) → Mid g0 (g0 + 1) w w' → K (a.put o.dst (.slice B ss.length d)) w') :
    if Region.wanted o (yielded ops a.tmps) = true then Oper.wp Try.prog o a w K Q else E := by
  have hw : Region.wanted o (yielded ops a.tmps) = true := by simp [Region.wanted, hgd]
  rw [if_pos hw]
  by_cases h0 : ss.length = 0
  · obtain rfl : ss = [] := List.eq_nil_of_length_eq_zero h0
    have hsrc : Src Try.prog j0.size 63 (.slice A 0 c) 0 [] w := by
      cases A with
      | none => exact Src.ofNil w Try.underlying63 c
      | some ad => exact Src.ofSlice w Try.underlying63 ad 0 c [] (by simp) (by simp) (by simp)
    have hrun := run_append_nothing (P := Try.prog) w 63 63 o.type 9 j0 Try.underlying63 hj0 (some ⟨g0, 0, none⟩) 0 0 (Nat.le_refl _) (.slice A 0 c) hsrc
    have hx' : a.eval x = .slice A 0 c := hx
    unfold Oper.wp
    simp [execOp, ho, resolve, invoke, builtin, hs, hx', hrun, Result.andThen]
    exact h (some ⟨g0, 0, none⟩) 0 w hown (Mid.refl _ _ _)
  · have hp : 0 < ss.length := by omega
    obtain ⟨A', c', e, _, _, _, hcell⟩ := hst
    injection e with e1 _ e3
    subst e1 e3
    obtain ⟨b, off, rfl, _, _, hcc⟩ := hcell hp
    refine wp_append_own w s x 63 ho base 9 j0 _ 1 16 Try.underlying63 hj0 hy0 hy1 hy2 rfl (by decide) (.slice (some ⟨g0, 0, none⟩) 0 0) 0 [] hs hown ⟨b, off, none⟩ ss.length c (ss.map Value.string) hx (by simp) (fun j u hu => ?_) (fun u hu => ?_) (by unfold maxLen; omega) (by omega) hbase fun v1 w1 hown1 hg1 _ => ?_
    · rw [List.getElem?_map] at hu
      obtain ⟨t, ht, rfl⟩ := Option.map_eq_some_iff.1 hu
      obtain ⟨hj, rfl⟩ := List.getElem?_eq_some_iff.1 ht
      rw [show (⟨b, off, none⟩ : Addr).add j = ⟨b, off + j, none⟩ by unfold Addr.add; split <;> simp_all]
      exact hcc j hj
    · obtain ⟨t, _, rfl⟩ := List.mem_map.1 hu
      rfl
    · rw [Nat.zero_add, List.nil_append] at hown1
      have hv : ∃ B d, v1 = .slice B ss.length d := by
        rcases hown1.2 with ⟨_, hh⟩ | ⟨g, cap, cur, rfl, _⟩
        · exact absurd hh h0
        · exact ⟨_, _, rfl⟩
      obtain ⟨B, d, rfl⟩ := hv
      exact h B d w1 hown1 ⟨hg1.os, hg1.tape, hg1.output, hg1.size, fun k hk hkk => hg1.block k hk fun e => by
        have : k = g0 := by simpa [Value.ownBlock] using e
        omega⟩

end Go.Proofs.Ytiochjagolijfaa
