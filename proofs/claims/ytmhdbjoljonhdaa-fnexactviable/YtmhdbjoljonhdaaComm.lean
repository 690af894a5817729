/- Code that sends into a channel of its own, or looks whether something lies there: a frame of one goroutine, step by step. No program stands in this text. -/
import Derived.Test.YtmhdbjoljonhdaaOwns
import Derived.Conc.LoneSelect
namespace Go.Proofs.Ytmhdbjoljonhdaa
open Go.RowKit Go.Conc

/-- as Code.wp, of an ordinary call's frame -/
def NWp (P : Program) (c : Code) (Q : Exit → Act → World → Prop) (a : Act) (w : World) : Prop :=
  ∀ b : Frame, b.kind = .normal → ∀ (k : List Item) (cs : List Frame), ∃ e a' w', Q e a' w' ∧ Arrives P (lone (b.at a (.code c :: k)) cs w) b k cs e a' w'
/-- what is left of a region -/
def Left (P : Program) (ops : Array Oper) (Q : Exit → Act → World → Prop) (l : List Nat) (a : Act) (w : World) : Prop :=
  ∀ b : Frame, b.kind = .normal → ∀ (k : List Item) (cs : List Frame), ∃ e a' w', Q e a' w' ∧ Arrives P (lone (b.at a (.inRegion ops l :: k)) cs w) b k cs e a' w'
section
variable {P : Program} {Q : Exit → Act → World → Prop} {a : Act} {w : World}
theorem NWp.of_wp {c : Code} (h : c.wp P Q a w) : NWp P c Q a w := fun b _ => h b
theorem NWp.more {c : Code} {Q' : Exit → Act → World → Prop} (h : NWp P c Q a w) (hq : ∀ e a w, Q e a w → Q' e a w) : NWp P c Q' a w := fun b hb k cs => by
  obtain ⟨e, a', w', q, r⟩ := h b hb k cs
  exact ⟨e, a', w', hq _ _ _ q, r⟩
theorem NWp.seq {x y : Code} (h : NWp P x (Exit.then (NWp P y Q) Q) a w) : NWp P (.seq x y) Q a w := by
  intro b hb k cs
  obtain ⟨e, a', w', q, r⟩ := h b hb (.code y :: k) cs
  have hs := Steps.one (step_seq (P := P) (b := b) (a := a) (k := k) (cs := cs) (w := w) (x := x) (y := y))
  cases e with
  | normal =>
    obtain ⟨e2, a2, w2, q2, r2⟩ := q b hb k cs
    exact ⟨e2, a2, w2, q2, Arrives.of_steps (hs.trans r) r2⟩
  | exit id => exact ⟨_, a', w', q, Arrives.of_steps hs (r.pass rfl fun _ _ => .inl (by simp))⟩
  | goto l => exact ⟨_, a', w', q, Arrives.of_steps hs (r.pass rfl fun _ _ => .inl (by simp))⟩
  | ret => exact ⟨_, a', w', q, Arrives.of_steps hs (r.pass rfl fun _ _ => .inl (by simp))⟩
  | panic ch => exact ⟨_, a', w', q, Arrives.of_steps hs (r.pass rfl fun _ _ => .inl (by simp))⟩
  | outgrown => exact ⟨_, a', w', q, Arrives.of_steps hs (r.pass rfl fun _ _ => .inl (by simp))⟩
theorem NWp.cond {c : Operand} {x y : Code} {t : Bool} (hc : a.eval c = .bool t) (h : NWp P (if t then x else y) Q a w) : NWp P (.cond c x y) Q a w := fun b hb k cs => by
  obtain ⟨e, a', w', q, r⟩ := h b hb k cs
  exact ⟨e, a', w', q, Arrives.of_steps (Steps.one (step_cond hc)) r⟩
theorem NWp.block {id : Nat} {c : Code} (h : NWp P c (Exit.inBlock id Q) a w) : NWp P (.block id c) Q a w := by
  intro b hb k cs
  obtain ⟨e, a', w', q, r⟩ := h b hb (.inBlock id :: k) cs
  have hs := Steps.one (step_block (P := P) (b := b) (a := a) (k := k) (cs := cs) (w := w) (id := id) (c := c))
  cases e with
  | normal => exact ⟨.normal, a', w', q, hs.trans (Steps.trans r (.one step_inBlock))⟩
  | exit j =>
    by_cases e : j = id
    · subst e
      have q' : Q .normal a' w' := by simpa [Exit.inBlock] using q
      exact ⟨.normal, a', w', q', hs.trans (r k (by simp [exitTo]))⟩
    · have q' : Q (.exit j) a' w' := by simpa [Exit.inBlock, e] using q
      exact ⟨.exit j, a', w', q', fun k' hk => hs.trans (r k' (by simp [exitTo, Ne.symm e]; exact hk))⟩
  | goto l => exact ⟨.goto l, a', w', q, fun k' hk => hs.trans (r k' (by simp [gotoIn, hk]))⟩
  | ret => exact ⟨.ret, a', w', q, Arrives.of_steps (e := .ret) (b := b) (k := k) hs r⟩
  | panic ch => exact ⟨.panic ch, a', w', q, Arrives.of_steps (e := .panic ch) (b := b) (k := k) hs r⟩
  | outgrown => exact ⟨.outgrown, a', w', q, Arrives.of_steps (e := .outgrown) (b := b) (k := k) (cs := cs) hs r⟩
/-- so it is with fewer rounds -/
def Lower (I : Nat → Act → World → Prop) (n : Nat) (a : Act) (w : World) : Prop := ∃ m, m < n ∧ I m a w
/-- a loop, as often as n rounds at most -/
theorem NWp.loop {c : Code} (I : Nat → Act → World → Prop) (n : Nat) (h0 : I n a w) (round : ∀ n a w, I n a w → NWp P c (Exit.then (Lower I n) Q) a w) : NWp P (.loop c) Q a w := by
  intro b hb k cs
  have key : ∀ n a w, I n a w → ∃ e a' w', Q e a' w' ∧ Arrives P (lone (b.at a (.code c :: .inLoop c :: k)) cs w) b k cs e a' w' := by
    intro n
    induction n using Nat.strongRecOn with
    | _ n ih =>
      intro a w hI
      obtain ⟨e, a', w', q, r⟩ := round n a w hI b hb (.inLoop c :: k) cs
      cases e with
      | normal =>
        obtain ⟨m, hm, hI2⟩ := q
        obtain ⟨e2, a2, w2, q2, r2⟩ := ih m hm a' w' hI2
        exact ⟨e2, a2, w2, q2, Arrives.of_steps (Steps.trans r (.one step_inLoop)) r2⟩
      | exit id => exact ⟨_, a', w', q, r.pass rfl fun _ _ => .inl (by simp)⟩
      | goto l => exact ⟨_, a', w', q, r.pass rfl fun _ _ => .inl (by simp)⟩
      | ret => exact ⟨_, a', w', q, r.pass rfl fun _ _ => .inl (by simp)⟩
      | panic ch => exact ⟨_, a', w', q, r.pass rfl fun _ _ => .inl (by simp)⟩
      | outgrown => exact ⟨_, a', w', q, r.pass rfl fun _ _ => .inl (by simp)⟩
  obtain ⟨e, a', w', q, r⟩ := key n a w h0
  exact ⟨e, a', w', q, Arrives.of_steps (.one step_loop) r⟩
theorem NWp.calls {f : FuncId} {fn : Func} {c : Code} {args : Array Value} {R : Ending → World → Prop} (hf : P.funcs[f]? = some fn) (hc : fn.body = some c)
    (h : NWp P c (bodyPost P fn R) { tmps := args ++ Array.replicate (fn.ntmps - args.size) undef, defers := [] } w) : Calls P f args w R := by
  intro cs
  have he : Frame.enter P f args .normal = ({ (default : Frame) with fn := f, kind := .normal } : Frame).at { tmps := args ++ Array.replicate (fn.ntmps - args.size) undef, defers := [] } [.code c] := by
    simp [Frame.enter, Frame.at, hf, hc]
  obtain ⟨e, a', w', q, r⟩ := h { (default : Frame) with fn := f, kind := .normal } rfl [] cs
  rw [← he] at r
  cases e with
  | normal =>
    obtain ⟨q1, v, q2, q3⟩ := q
    exact ⟨.returned v, w', _, q3, Steps.trans r (.one step_end), rfl, rfl, q1, rfl, fn, hf, q2⟩
  | ret =>
    obtain ⟨q1, v, q2, q3⟩ := q
    obtain ⟨todo, r⟩ := r
    exact ⟨.returned v, w', _, q3, r, rfl, rfl, q1, rfl, fn, hf, q2⟩
  | panic chain =>
    obtain ⟨q1, q2⟩ := q
    obtain ⟨todo, r⟩ := r
    exact ⟨.panicked chain, w', _, q2, r, rfl, rfl, q1, fn, hf⟩
  | exit id => exact q.elim
  | goto l => exact q.elim
  | outgrown => exact ⟨.outgrown, w', { (default : Frame) with fn := f, kind := .normal }, q, r.resolve_left (by simp), rfl, trivial⟩

variable {ops : Array Oper} {i : Nat} {rest : List Nat} {o : Oper}
theorem NWp.region {id : Nat} (h : Left P ops Q (List.range ops.size) a w) : NWp P (.region id ops false) Q a w := fun b hb k cs => by
  obtain ⟨e, a', w', q, r⟩ := h b hb k cs
  exact ⟨e, a', w', q, Arrives.of_steps (.one step_region) r⟩
theorem Left.nil (h : Q .normal a w) : Left P ops Q [] a w := fun _ _ _ _ => ⟨.normal, a, w, h, .one step_region_end⟩
theorem Left.val (ho : ops[i]? = some o) (hw : Region.wanted o (yielded ops a.tmps) = true) {v : Value} {w' : World} (hr : (execOp a.eval o).run P w = .ok (.value v) w') (h : Left P ops Q rest (a.put o.dst v) w') : Left P ops Q (i :: rest) a w := by
  intro b hb k cs
  obtain ⟨e, a2, w2, q, r⟩ := h b hb k cs
  refine ⟨e, a2, w2, q, Arrives.of_steps (.one (step_lone_go ?_)) r⟩
  have hfin := Frame.finish_at b a ops i rest k v
  rw [ho] at hfin
  rw [stepG_op ho hw, show b.at (a.put o.dst v) (.inRegion ops rest :: k) = (b.at a (.inRegion ops (i :: rest) :: k)).finish v from hfin.symm]
  simp [stepG.apply, hr]
theorem Left.val_k (ho : ops[i]? = some o) (hw : Region.wanted o (yielded ops a.tmps) = true) (h : ∀ K : Result Next → Prop, (∀ v w', Left P ops Q rest (a.put o.dst v) w' → K (.ok (.value v) w')) → K ((execOp a.eval o).run P w)) : Left P ops Q (i :: rest) a w := by
  obtain ⟨v, w', h1, h2⟩ := h (fun r => ∃ v w', Left P ops Q rest (a.put o.dst v) w' ∧ r = .ok (.value v) w') fun v w' h => ⟨v, w', h, rfl⟩
  exact Left.val ho hw h2 h1
/-- a send into a channel that has room -/
theorem Left.send {c cap s r : Nat} {buf : Array Value} {v z : Value} {tm : Bool} (ho : ops[i]? = some o) (hw : Region.wanted o (yielded ops a.tmps) = true) (hr : (execOp a.eval o).run P w = .ok (.comm #[scase c v z] true .send) w)
    (hc : w.heap[c]? = some (.chan cap buf false s r tm)) (hroom : buf.size < cap) (h : Left P ops Q rest (a.put o.dst undef) (w.setChan c cap (buf.push v) false (s + 1) r tm)) : Left P ops Q (i :: rest) a w := by
  intro b hb k cs
  obtain ⟨e, a2, w2, q, rr⟩ := h b hb k cs
  refine ⟨e, a2, w2, q, Arrives.of_steps (.one ?_) rr⟩
  rw [lone_eq_solo, step_lone_send_room (stepG_comm ho hw (by rw [hb]; decide) hr) hc hroom, Frame.finish_at, ho]
  rfl
/-- something lies there -/
theorem Left.take {c cap s r : Nat} {buf : Array Value} {z : Value} {tm cl : Bool} (ho : ops[i]? = some o) (hw : Region.wanted o (yielded ops a.tmps) = true) (hr : (execOp a.eval o).run P w = .ok (.comm #[rcase c z] false .select) w)
    (hc : w.heap[c]? = some (.chan cap buf cl s r tm)) (hsome : 0 < buf.size) (h : Left P ops Q rest (a.put o.dst (.tuple #[goInt 0, .bool true, buf.getD 0 undef])) (w.setChan c cap (buf.extract 1 buf.size) cl s (r + 1) tm)) : Left P ops Q (i :: rest) a w := by
  intro b hb k cs
  obtain ⟨e, a2, w2, q, rr⟩ := h b hb k cs
  refine ⟨e, a2, w2, q, Arrives.of_steps (.one ?_) rr⟩
  rw [lone_eq_solo, step_lone_select_recv_buf (stepG_comm ho hw (by rw [hb]; decide) hr) hc hsome, Frame.finish_at, ho]
  rfl
/-- nothing lies there -/
theorem Left.none {c cap s r : Nat} {z : Value} {tm : Bool} (ho : ops[i]? = some o) (hw : Region.wanted o (yielded ops a.tmps) = true) (hr : (execOp a.eval o).run P w = .ok (.comm #[rcase c z] false .select) w)
    (hc : w.heap[c]? = some (.chan cap #[] false s r tm)) (h : Left P ops Q rest (a.put o.dst (.tuple #[goInt (-1), .bool false, z])) w) : Left P ops Q (i :: rest) a w := by
  intro b hb k cs
  obtain ⟨e, a2, w2, q, rr⟩ := h b hb k cs
  refine ⟨e, a2, w2, q, Arrives.of_steps (.one ?_) rr⟩
  rw [lone_eq_solo, step_lone_select_default (stepG_comm ho hw (by rw [hb]; decide) hr) hc, Frame.finish_at, ho]
  rfl
end
end Go.Proofs.Ytmhdbjoljonhdaa
