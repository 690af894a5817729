import Derived.Test.YtonfiahihmcmlaaJOwns
import Derived.Conc.LoneSelect
import Derived.Test.YtonfiahihmcmlaaJKeys
import Derived.Test.YtonfiahihmcmlaaEarP
/- Code that sends into a channel of its own, or looks whether something lies there: a frame of one goroutine, step by step. No program stands in this text. -/
namespace Go.Proofs.Ytonfiahihmcmlaa
open Go.RowKit Go.Conc

/-- as Code.wp, of an ordinary call's frame -/
def NWp (P : Program) (c : Code) (Q : Exit → Act → World → Prop) (a : Act) (w : World) : Prop :=
  ∀ b : Frame, b.kind = .normal → ∀ (k : List Item) (cs : List Frame), ∃ e a' w', Q e a' w' ∧ Arrives P (lone (b.at a (.code c :: k)) cs w) b k cs e a' w'
/-- what is left of a region -/
def Left (P : Program) (ops : Array Oper) (Q : Exit → Act → World → Prop) (l : List Nat) (a : Act) (w : World) : Prop :=
  ∀ b : Frame, b.kind = .normal → ∀ (k : List Item) (cs : List Frame), ∃ e a' w', Q e a' w' ∧ Arrives P (lone (b.at a (.inRegion ops l :: k)) cs w) b k cs e a' w'
section
variable {P : Program} {Q : Exit → Act → World → Prop} {a : Act} {w : World}
theorem NWp.of_wp {c : Code} (h : c.wp P Q a w) : NWp P c Q a w := fun b _ => h b
theorem NWp.more {c : Code} {Q' : Exit → Act → World → Prop} (h : NWp P c Q a w) (hq : ∀ e a w, Q e a w → Q' e a w) : NWp P c Q' a w := fun b hb k cs => by
  obtain ⟨e, a', w', q, r⟩ := h b hb k cs
  exact ⟨e, a', w', hq _ _ _ q, r⟩
theorem NWp.seq {x y : Code} (h : NWp P x (Exit.then (NWp P y Q) Q) a w) : NWp P (.seq x y) Q a w := by
  intro b hb k cs
  obtain ⟨e, a', w', q, r⟩ := h b hb (.code y :: k) cs
  have hs := Steps.one (step_seq (P := P) (b := b) (a := a) (k := k) (cs := cs) (w := w) (x := x) (y := y))
  cases e with
  | normal =>
    obtain ⟨e2, a2, w2, q2, r2⟩ := q b hb k cs
    exact ⟨e2, a2, w2, q2, Arrives.of_steps (hs.trans r) r2⟩
  | exit id => exact ⟨_, a', w', q, Arrives.of_steps hs (r.pass rfl fun _ _ => .inl (by simp))⟩
  | goto l => exact ⟨_, a', w', q, Arrives.of_steps hs (r.pass rfl fun _ _ => .inl (by simp))⟩
  | ret => exact ⟨_, a', w', q, Arrives.of_steps hs (r.pass rfl fun _ _ => .inl (by simp))⟩
  | panic ch => exact ⟨_, a', w', q, Arrives.of_steps hs (r.pass rfl fun _ _ => .inl (by simp))⟩
  | outgrown => exact ⟨_, a', w', q, Arrives.of_steps hs (r.pass rfl fun _ _ => .inl (by simp))⟩
theorem NWp.cond {c : Operand} {x y : Code} {t : Bool} (hc : a.eval c = .bool t) (h : NWp P (if t then x else y) Q a w) : NWp P (.cond c x y) Q a w := fun b hb k cs => by
  obtain ⟨e, a', w', q, r⟩ := h b hb k cs
  exact ⟨e, a', w', q, Arrives.of_steps (Steps.one (step_cond hc)) r⟩
theorem NWp.block {id : Nat} {c : Code} (h : NWp P c (Exit.inBlock id Q) a w) : NWp P (.block id c) Q a w := by
  intro b hb k cs
  obtain ⟨e, a', w', q, r⟩ := h b hb (.inBlock id :: k) cs
  have hs := Steps.one (step_block (P := P) (b := b) (a := a) (k := k) (cs := cs) (w := w) (id := id) (c := c))
  cases e with
  | normal => exact ⟨.normal, a', w', q, hs.trans (Steps.trans r (.one step_inBlock))⟩
  | exit j =>
    by_cases e : j = id
    · subst e
      have q' : Q .normal a' w' := by simpa [Exit.inBlock] using q
      exact ⟨.normal, a', w', q', hs.trans (r k (by simp [exitTo]))⟩
    · have q' : Q (.exit j) a' w' := by simpa [Exit.inBlock, e] using q
      exact ⟨.exit j, a', w', q', fun k' hk => hs.trans (r k' (by simp [exitTo, Ne.symm e]; exact hk))⟩
  | goto l => exact ⟨.goto l, a', w', q, fun k' hk => hs.trans (r k' (by simp [gotoIn, hk]))⟩
  | ret => exact ⟨.ret, a', w', q, Arrives.of_steps (e := .ret) (b := b) (k := k) hs r⟩
  | panic ch => exact ⟨.panic ch, a', w', q, Arrives.of_steps (e := .panic ch) (b := b) (k := k) hs r⟩
  | outgrown => exact ⟨.outgrown, a', w', q, Arrives.of_steps (e := .outgrown) (b := b) (k := k) (cs := cs) hs r⟩
/-- so it is with fewer rounds -/
def Lower (I : Nat → Act → World → Prop) (n : Nat) (a : Act) (w : World) : Prop := ∃ m, m < n ∧ I m a w
/-- a loop, as often as n rounds at most -/
theorem NWp.loop {c : Code} (I : Nat → Act → World → Prop) (n : Nat) (h0 : I n a w) (round : ∀ n a w, I n a w → NWp P c (Exit.then (Lower I n) Q) a w) : NWp P (.loop c) Q a w := by
  intro b hb k cs
  have key : ∀ n a w, I n a w → ∃ e a' w', Q e a' w' ∧ Arrives P (lone (b.at a (.code c :: .inLoop c :: k)) cs w) b k cs e a' w' := by
    intro n
    induction n using Nat.strongRecOn with
    | _ n ih =>
      intro a w hI
      obtain ⟨e, a', w', q, r⟩ := round n a w hI b hb (.inLoop c :: k) cs
      cases e with
      | normal =>
        obtain ⟨m, hm, hI2⟩ := q
        obtain ⟨e2, a2, w2, q2, r2⟩ := ih m hm a' w' hI2
        exact ⟨e2, a2, w2, q2, Arrives.of_steps (Steps.trans r (.one step_inLoop)) r2⟩
      | exit id => exact ⟨_, a', w', q, r.pass rfl fun _ _ => .inl (by simp)⟩
      | goto l => exact ⟨_, a', w', q, r.pass rfl fun _ _ => .inl (by simp)⟩
      | ret => exact ⟨_, a', w', q, r.pass rfl fun _ _ => .inl (by simp)⟩
      | panic ch => exact ⟨_, a', w', q, r.pass rfl fun _ _ => .inl (by simp)⟩
      | outgrown => exact ⟨_, a', w', q, r.pass rfl fun _ _ => .inl (by simp)⟩
  obtain ⟨e, a', w', q, r⟩ := key n a w h0
  exact ⟨e, a', w', q, Arrives.of_steps (.one step_loop) r⟩
theorem NWp.calls {f : FuncId} {fn : Func} {c : Code} {args : Array Value} {R : Ending → World → Prop} (hf : P.funcs[f]? = some fn) (hc : fn.body = some c)
    (h : NWp P c (bodyPost P fn R) { tmps := args ++ Array.replicate (fn.ntmps - args.size) undef, defers := [] } w) : Calls P f args w R := by
  intro cs
  have he : Frame.enter P f args .normal = ({ (default : Frame) with fn := f, kind := .normal } : Frame).at { tmps := args ++ Array.replicate (fn.ntmps - args.size) undef, defers := [] } [.code c] := by
    simp [Frame.enter, Frame.at, hf, hc]
  obtain ⟨e, a', w', q, r⟩ := h { (default : Frame) with fn := f, kind := .normal } rfl [] cs
  rw [← he] at r
  cases e with
  | normal =>
    obtain ⟨q1, v, q2, q3⟩ := q
    exact ⟨.returned v, w', _, q3, Steps.trans r (.one step_end), rfl, rfl, q1, rfl, fn, hf, q2⟩
  | ret =>
    obtain ⟨q1, v, q2, q3⟩ := q
    obtain ⟨todo, r⟩ := r
    exact ⟨.returned v, w', _, q3, r, rfl, rfl, q1, rfl, fn, hf, q2⟩
  | panic chain =>
    obtain ⟨q1, q2⟩ := q
    obtain ⟨todo, r⟩ := r
    exact ⟨.panicked chain, w', _, q2, r, rfl, rfl, q1, fn, hf⟩
  | exit id => exact q.elim
  | goto l => exact q.elim
  | outgrown => exact ⟨.outgrown, w', { (default : Frame) with fn := f, kind := .normal }, q, r.resolve_left (by simp), rfl, trivial⟩

variable {ops : Array Oper} {i : Nat} {rest : List Nat} {o : Oper}
theorem NWp.region {id : Nat} (h : Left P ops Q (List.range ops.size) a w) : NWp P (.region id ops false) Q a w := fun b hb k cs => by
  obtain ⟨e, a', w', q, r⟩ := h b hb k cs
  exact ⟨e, a', w', q, Arrives.of_steps (.one step_region) r⟩
theorem Left.nil (h : Q .normal a w) : Left P ops Q [] a w := fun _ _ _ _ => ⟨.normal, a, w, h, .one step_region_end⟩
theorem Left.val (ho : ops[i]? = some o) (hw : Region.wanted o (yielded ops a.tmps) = true) {v : Value} {w' : World} (hr : (execOp a.eval o).run P w = .ok (.value v) w') (h : Left P ops Q rest (a.put o.dst v) w') : Left P ops Q (i :: rest) a w := by
  intro b hb k cs
  obtain ⟨e, a2, w2, q, r⟩ := h b hb k cs
  refine ⟨e, a2, w2, q, Arrives.of_steps (.one (step_lone_go ?_)) r⟩
  have hfin := Frame.finish_at b a ops i rest k v
  rw [ho] at hfin
  rw [stepG_op ho hw, show b.at (a.put o.dst v) (.inRegion ops rest :: k) = (b.at a (.inRegion ops (i :: rest) :: k)).finish v from hfin.symm]
  simp [stepG.apply, hr]
theorem Left.val_k (ho : ops[i]? = some o) (hw : Region.wanted o (yielded ops a.tmps) = true) (h : ∀ K : Result Next → Prop, (∀ v w', Left P ops Q rest (a.put o.dst v) w' → K (.ok (.value v) w')) → K ((execOp a.eval o).run P w)) : Left P ops Q (i :: rest) a w := by
  obtain ⟨v, w', h1, h2⟩ := h (fun r => ∃ v w', Left P ops Q rest (a.put o.dst v) w' ∧ r = .ok (.value v) w') fun v w' h => ⟨v, w', h, rfl⟩
  exact Left.val ho hw h2 h1
/-- a send into a channel that has room -/
theorem Left.send {c cap s r : Nat} {buf : Array Value} {v z : Value} {tm : Bool} (ho : ops[i]? = some o) (hw : Region.wanted o (yielded ops a.tmps) = true) (hr : (execOp a.eval o).run P w = .ok (.comm #[scase c v z] true .send) w)
    (hc : w.heap[c]? = some (.chan cap buf false s r tm)) (hroom : buf.size < cap) (h : Left P ops Q rest (a.put o.dst undef) (w.setChan c cap (buf.push v) false (s + 1) r tm)) : Left P ops Q (i :: rest) a w := by
  intro b hb k cs
  obtain ⟨e, a2, w2, q, rr⟩ := h b hb k cs
  refine ⟨e, a2, w2, q, Arrives.of_steps (.one ?_) rr⟩
  rw [lone_eq_solo, step_lone_send_room (stepG_comm ho hw (by rw [hb]; decide) hr) hc hroom, Frame.finish_at, ho]
  rfl
/-- something lies there -/
theorem Left.take {c cap s r : Nat} {buf : Array Value} {z : Value} {tm cl : Bool} (ho : ops[i]? = some o) (hw : Region.wanted o (yielded ops a.tmps) = true) (hr : (execOp a.eval o).run P w = .ok (.comm #[rcase c z] false .select) w)
    (hc : w.heap[c]? = some (.chan cap buf cl s r tm)) (hsome : 0 < buf.size) (h : Left P ops Q rest (a.put o.dst (.tuple #[goInt 0, .bool true, buf.getD 0 undef])) (w.setChan c cap (buf.extract 1 buf.size) cl s (r + 1) tm)) : Left P ops Q (i :: rest) a w := by
  intro b hb k cs
  obtain ⟨e, a2, w2, q, rr⟩ := h b hb k cs
  refine ⟨e, a2, w2, q, Arrives.of_steps (.one ?_) rr⟩
  rw [lone_eq_solo, step_lone_select_recv_buf (stepG_comm ho hw (by rw [hb]; decide) hr) hc hsome, Frame.finish_at, ho]
  rfl
/-- nothing lies there -/
theorem Left.none {c cap s r : Nat} {z : Value} {tm : Bool} (ho : ops[i]? = some o) (hw : Region.wanted o (yielded ops a.tmps) = true) (hr : (execOp a.eval o).run P w = .ok (.comm #[rcase c z] false .select) w)
    (hc : w.heap[c]? = some (.chan cap #[] false s r tm)) (h : Left P ops Q rest (a.put o.dst (.tuple #[goInt (-1), .bool false, z])) w) : Left P ops Q (i :: rest) a w := by
  intro b hb k cs
  obtain ⟨e, a2, w2, q, rr⟩ := h b hb k cs
  refine ⟨e, a2, w2, q, Arrives.of_steps (.one ?_) rr⟩
  rw [lone_eq_solo, step_lone_select_default (stepG_comm ho hw (by rw [hb]; decide) hr) hc, Frame.finish_at, ho]
  rfl
end
end Go.Proofs.Ytonfiahihmcmlaa

/- The search in memory: its maps, its queue, the rows of those that wait; what a call may turn. -/
namespace Go.Proofs.Ytonfiahihmcmlaa
open Go.RowKit Go.Maps

open Classical in
noncomputable def memF (ks : List Lit) : Lit → Option (DataW Unit) := fun l => if l ∈ ks then some (.lit (.bool true)) else none
theorem memF_in {ks : List Lit} {l : Lit} (h : l ∈ ks) : memF ks l = some (.lit (.bool true)) := by unfold memF; rw [if_pos h]
theorem memF_out {ks : List Lit} {l : Lit} (h : l ∉ ks) : memF ks l = none := by unfold memF; rw [if_neg h]
theorem memF_snoc (ks : List Lit) (k l : Lit) : memF (ks ++ [k]) l = putF (memF ks) k (.lit (.bool true)) l := by
  by_cases e : l = k
  · rw [e, memF_in (List.mem_append_right _ (by simp)), putF_same]
  · rw [putF_other _ _ e]
    by_cases h : l ∈ ks
    · rw [memF_in (List.mem_append_left _ h), memF_in h]
    · rw [memF_out (fun h' => (List.mem_append.1 h').elim h fun h'' => e (List.mem_singleton.1 h'')), memF_out h]
theorem memF_nil (l : Lit) : memF [] l = none := memF_out (by simp)
noncomputable def boolE : Rd := plainElem Try.prog 4
theorem zeroBool (w : World) : (zeroValue 4).run Try.prog w = .ok (.bool false) w := by kernel_rfl
theorem plain_bool_inv {P : Program} {e : TypeId} (he : P.underlying e = some .bool) {v : Value} {x : Bool} {ps : List MemPlace} (h : plainElem (H := Unit) P e v = some (.lit (.bool x), ps)) : v = .bool x := by
  unfold plainElem at h
  rw [he] at h
  cases v <;> simp at h
  rw [h.1]
theorem boolE_inv {v : Value} {x : Bool} {ps : List MemPlace} (h : boolE v = some (.lit (.bool x), ps)) : v = .bool x := plain_bool_inv Try.underlying4 h
section
variable {w : World} {kt t : TypeId} {b n : Nat} {ks : List Lit} {key : Value} {kl : Lit}
theorem set_in (h : MapAt w kt boolE b n (memF ks)) (K : Keyed Try.prog kt) (ht : Try.prog.underlying t = some (.map kt 4)) (hkey : keyOf Try.prog kt key = some kl) (hm : kl ∈ ks) : (Instr.lookup t (.map (some b)) key false).run Try.prog w = .ok (.bool true) w := by
  obtain ⟨v, ps, h1, h2⟩ := h.look K ht (zeroBool w) (plainElem_bool Try.underlying4 false) hkey
  have e : (memF ks kl).getD (.lit (.bool false)) = .lit (.bool true) := by rw [memF_in hm]; rfl
  rw [e] at h2
  rw [h1, boolE_inv h2]
theorem set_out (h : MapAt w kt boolE b n (memF ks)) (K : Keyed Try.prog kt) (ht : Try.prog.underlying t = some (.map kt 4)) (hkey : keyOf Try.prog kt key = some kl) (hm : kl ∉ ks) : (Instr.lookup t (.map (some b)) key false).run Try.prog w = .ok (.bool false) w := by
  obtain ⟨v, ps, h1, h2⟩ := h.look K ht (zeroBool w) (plainElem_bool Try.underlying4 false) hkey
  have e : (memF ks kl).getD (.lit (.bool false)) = .lit (.bool false) := by rw [memF_out hm]; rfl
  rw [e] at h2
  rw [h1, boolE_inv h2]
theorem set_put (h : MapAt w kt boolE b n (memF ks)) (K : Keyed Try.prog kt) (ht : Try.prog.underlying t = some (.map kt 4)) (hn : n < maxLen) (hkey : keyOf Try.prog kt key = some kl) :
    ∃ w', (Instr.mapUpdate t (.map (some b)) key (.bool true)).run Try.prog w = .ok () w' ∧ MapAt w' kt boolE b (n + 1) (memF (ks ++ [kl])) ∧ w.grownBy w' (some b) ∧ w'.heap.size = w.heap.size := by
  obtain ⟨w', h1, h2, h3, h4⟩ := h.put K ht hn hkey (plainElem_bool Try.underlying4 true)
  exact ⟨w', h1, h2.like fun l => memF_snoc ks kl l, h3, h4⟩
end

/-- how a waiting list's slice reads, as a map's element -/
def rawE : Rd
  | .slice none 0 0 => some (.nil, [])
  | .slice (some ⟨b, 0, none⟩) n c => some (.agg [.lit (.int .i64 (b : Int)), .lit (.int .i64 (n : Int)), .lit (.int .i64 (c : Int))], [])
  | _ => none
def rawD (b n c : Nat) : DataW Unit := .agg [.lit (.int .i64 (b : Int)), .lit (.int .i64 (n : Int)), .lit (.int .i64 (c : Int))]
theorem rawE_some (b n c : Nat) : rawE (.slice (some ⟨b, 0, none⟩) n c) = some (rawD b n c, []) := rfl
theorem rawE_inv {v : Value} {b n c : Nat} {ps : List MemPlace} (h : rawE v = some (rawD b n c, ps)) : v = .slice (some ⟨b, 0, none⟩) n c := by
  unfold rawE at h
  split at h
  · simp [rawD] at h
  · simp only [rawD, Option.some.injEq, Prod.mk.injEq, DataW.agg.injEq, List.cons.injEq, DataW.lit.injEq, Lit.int.injEq, true_and, and_true, Int.ofNat_inj] at h
    obtain ⟨⟨rfl, rfl, rfl⟩, _⟩ := h
    rfl
  · cases h
theorem rawE_nil {v : Value} {ps : List MemPlace} (h : rawE v = some (.nil, ps)) : v = .slice none 0 0 := by
  unfold rawE at h
  split at h
  · rfl
  · simp at h
  · cases h
structure WtM where
  head : ByteArray
  fr : Nat
  ls : List Look
  blk : Nat
  cap : Nat
def WtM.v (e : WtM) : Value := .slice (some ⟨e.blk, 0, none⟩) e.ls.length e.cap
open Classical in
noncomputable def waitF (M : List WtM) : Lit → Option (DataW Unit) := fun l => (M.find? fun e => decide (goalK e.head e.fr = l)).map fun e => rawD e.blk e.ls.length e.cap
open Classical in
/-- another list stands at this goal -/
noncomputable def putM (M : List WtM) (e : WtM) : List WtM := (M.filter fun x => !decide (x.head = e.head ∧ x.fr = e.fr)) ++ [e]
theorem putM_mem {M : List WtM} {e x : WtM} : x ∈ putM M e ↔ (x ∈ M ∧ ¬ (x.head = e.head ∧ x.fr = e.fr)) ∨ x = e := by
  unfold putM
  rw [List.mem_append, List.mem_filter, List.mem_singleton, Bool.not_eq_true', decide_eq_false_iff_not]
def WtM.ok (e : WtM) : Prop := e.head.size ≤ maxLen ∧ e.fr ≤ 1000
open Classical in
theorem waitF_put {M : List WtM} {e : WtM} (hM : ∀ x ∈ M, x.ok) (he : e.ok) (l : Lit) : waitF (putM M e) l = putF (waitF M) (goalK e.head e.fr) (rawD e.blk e.ls.length e.cap) l := by
  by_cases hl : l = goalK e.head e.fr
  · subst hl
    rw [putF_same]
    unfold waitF putM
    rw [List.find?_append]
    have : (M.filter fun x => !decide (x.head = e.head ∧ x.fr = e.fr)).find? (fun x => decide (goalK x.head x.fr = goalK e.head e.fr)) = none := by
      rw [List.find?_eq_none]
      intro x hx h
      obtain ⟨hx1, hx2⟩ := List.mem_filter.1 hx
      have := goalK_inj (hM x hx1).1 (hM x hx1).2 he.1 he.2 (by simpa using h)
      simp [this.1, this.2] at hx2
    rw [this]
    simp
  · rw [putF_other _ _ hl]
    unfold waitF putM
    rw [List.find?_append, List.find?_filter]
    have e2 : [e].find? (fun a => decide (goalK a.head a.fr = l)) = none := by simp [Ne.symm hl]
    rw [e2, Option.or_none]
    congr 2
    funext a
    by_cases h : goalK a.head a.fr = l
    · have : ¬ (a.head = e.head ∧ a.fr = e.fr) := fun ⟨h1, h2⟩ => hl (by rw [← h, h1, h2])
      simp only [h, this, decide_true, decide_false, Bool.not_false, and_self]
    · simp only [h, decide_false, Bool.false_eq_true, and_false]
end Go.Proofs.Ytonfiahihmcmlaa
