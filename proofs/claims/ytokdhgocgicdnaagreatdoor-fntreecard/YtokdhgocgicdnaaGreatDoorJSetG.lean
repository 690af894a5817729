import Derived.Test.YtokdhgocgicdnaaGreatDoorJKeys
import Derived.Test.YtokdhgocgicdnaaGreatDoorJComm
import Derived.Test.YtokdhgocgicdnaaGreatDoorJEar
import Derived.Test.YtokdhgocgicdnaaGreatDoorJSplit
import Derived.Deep.AppendLies
/- The search in memory: its maps, its queue, the rows of those that wait; what a call may turn. -/
namespace Go.Proofs.YtokdhgocgicdnaaGreatDoor
open Go.RowKit Go.Maps

open Classical in
noncomputable def memF (ks : List Lit) : Lit → Option (DataW Unit) := fun l => if l ∈ ks then some (.lit (.bool true)) else none
theorem memF_in {ks : List Lit} {l : Lit} (h : l ∈ ks) : memF ks l = some (.lit (.bool true)) := by unfold memF; rw [if_pos h]
theorem memF_out {ks : List Lit} {l : Lit} (h : l ∉ ks) : memF ks l = none := by unfold memF; rw [if_neg h]
theorem memF_snoc (ks : List Lit) (k l : Lit) : memF (ks ++ [k]) l = putF (memF ks) k (.lit (.bool true)) l := by
  by_cases e : l = k
  · rw [e, memF_in (List.mem_append_right _ (by simp)), putF_same]
  · rw [putF_other _ _ e]
    by_cases h : l ∈ ks
    · rw [memF_in (List.mem_append_left _ h), memF_in h]
    · rw [memF_out (fun h' => (List.mem_append.1 h').elim h fun h'' => e (List.mem_singleton.1 h'')), memF_out h]
theorem memF_nil (l : Lit) : memF [] l = none := memF_out (by simp)
noncomputable def boolE : Rd := plainElem Tryz.prog 4
theorem zeroBool (w : World) : (zeroValue 4).run Tryz.prog w = .ok (.bool false) w := by kernel_rfl
theorem plain_bool_inv {P : Program} {e : TypeId} (he : P.underlying e = some .bool) {v : Value} {x : Bool} {ps : List MemPlace} (h : plainElem (H := Unit) P e v = some (.lit (.bool x), ps)) : v = .bool x := by
  unfold plainElem at h
  rw [he] at h
  cases v <;> simp at h
  rw [h.1]
theorem boolE_inv {v : Value} {x : Bool} {ps : List MemPlace} (h : boolE v = some (.lit (.bool x), ps)) : v = .bool x := plain_bool_inv Tryz.underlying4 h
section
variable {w : World} {kt t : TypeId} {b n : Nat} {ks : List Lit} {key : Value} {kl : Lit}
theorem set_in (h : MapAt w kt boolE b n (memF ks)) (K : Keyed Tryz.prog kt) (ht : Tryz.prog.underlying t = some (.map kt 4)) (hkey : keyOf Tryz.prog kt key = some kl) (hm : kl ∈ ks) : (Instr.lookup t (.map (some b)) key false).run Tryz.prog w = .ok (.bool true) w := by
  obtain ⟨v, ps, h1, h2⟩ := h.look K ht (zeroBool w) (plainElem_bool Tryz.underlying4 false) hkey
  have e : (memF ks kl).getD (.lit (.bool false)) = .lit (.bool true) := by rw [memF_in hm]; rfl
  rw [e] at h2
  rw [h1, boolE_inv h2]
theorem set_out (h : MapAt w kt boolE b n (memF ks)) (K : Keyed Tryz.prog kt) (ht : Tryz.prog.underlying t = some (.map kt 4)) (hkey : keyOf Tryz.prog kt key = some kl) (hm : kl ∉ ks) : (Instr.lookup t (.map (some b)) key false).run Tryz.prog w = .ok (.bool false) w := by
  obtain ⟨v, ps, h1, h2⟩ := h.look K ht (zeroBool w) (plainElem_bool Tryz.underlying4 false) hkey
  have e : (memF ks kl).getD (.lit (.bool false)) = .lit (.bool false) := by rw [memF_out hm]; rfl
  rw [e] at h2
  rw [h1, boolE_inv h2]
theorem set_put (h : MapAt w kt boolE b n (memF ks)) (K : Keyed Tryz.prog kt) (ht : Tryz.prog.underlying t = some (.map kt 4)) (hn : n < maxLen) (hkey : keyOf Tryz.prog kt key = some kl) :
    ∃ w', (Instr.mapUpdate t (.map (some b)) key (.bool true)).run Tryz.prog w = .ok () w' ∧ MapAt w' kt boolE b (n + 1) (memF (ks ++ [kl])) ∧ w.grownBy w' (some b) ∧ w'.heap.size = w.heap.size := by
  obtain ⟨w', h1, h2, h3, h4⟩ := h.put K ht hn hkey (plainElem_bool Tryz.underlying4 true)
  exact ⟨w', h1, h2.like fun l => memF_snoc ks kl l, h3, h4⟩
end

/-- how a waiting list's slice reads, as a map's element -/
def rawE : Rd
  | .slice none 0 0 => some (.nil, [])
  | .slice (some ⟨b, 0, none⟩) n c => some (.agg [.lit (.int .i64 (b : Int)), .lit (.int .i64 (n : Int)), .lit (.int .i64 (c : Int))], [])
  | _ => none
def rawD (b n c : Nat) : DataW Unit := .agg [.lit (.int .i64 (b : Int)), .lit (.int .i64 (n : Int)), .lit (.int .i64 (c : Int))]
theorem rawE_some (b n c : Nat) : rawE (.slice (some ⟨b, 0, none⟩) n c) = some (rawD b n c, []) := rfl
theorem rawE_inv {v : Value} {b n c : Nat} {ps : List MemPlace} (h : rawE v = some (rawD b n c, ps)) : v = .slice (some ⟨b, 0, none⟩) n c := by
  unfold rawE at h
  split at h
  · simp [rawD] at h
  · simp only [rawD, Option.some.injEq, Prod.mk.injEq, DataW.agg.injEq, List.cons.injEq, DataW.lit.injEq, Lit.int.injEq, true_and, and_true, Int.ofNat_inj] at h
    obtain ⟨⟨rfl, rfl, rfl⟩, _⟩ := h
    rfl
  · cases h
theorem rawE_nil {v : Value} {ps : List MemPlace} (h : rawE v = some (.nil, ps)) : v = .slice none 0 0 := by
  unfold rawE at h
  split at h
  · rfl
  · simp at h
  · cases h
structure WtM where
  head : ByteArray
  fr : Nat
  ls : List Look
  blk : Nat
  cap : Nat
def WtM.v (e : WtM) : Value := .slice (some ⟨e.blk, 0, none⟩) e.ls.length e.cap
open Classical in
noncomputable def waitF (M : List WtM) : Lit → Option (DataW Unit) := fun l => (M.find? fun e => decide (goalK e.head e.fr = l)).map fun e => rawD e.blk e.ls.length e.cap
open Classical in
/-- another list stands at this goal -/
noncomputable def putM (M : List WtM) (e : WtM) : List WtM := (M.filter fun x => !decide (x.head = e.head ∧ x.fr = e.fr)) ++ [e]
theorem putM_mem {M : List WtM} {e x : WtM} : x ∈ putM M e ↔ (x ∈ M ∧ ¬ (x.head = e.head ∧ x.fr = e.fr)) ∨ x = e := by
  unfold putM
  rw [List.mem_append, List.mem_filter, List.mem_singleton, Bool.not_eq_true', decide_eq_false_iff_not]
def WtM.ok (e : WtM) : Prop := e.head.size ≤ maxLen ∧ e.fr ≤ 1000
open Classical in
theorem waitF_put {M : List WtM} {e : WtM} (hM : ∀ x ∈ M, x.ok) (he : e.ok) (l : Lit) : waitF (putM M e) l = putF (waitF M) (goalK e.head e.fr) (rawD e.blk e.ls.length e.cap) l := by
  by_cases hl : l = goalK e.head e.fr
  · subst hl
    rw [putF_same]
    unfold waitF putM
    rw [List.find?_append]
    have : (M.filter fun x => !decide (x.head = e.head ∧ x.fr = e.fr)).find? (fun x => decide (goalK x.head x.fr = goalK e.head e.fr)) = none := by
      rw [List.find?_eq_none]
      intro x hx h
      obtain ⟨hx1, hx2⟩ := List.mem_filter.1 hx
      have := goalK_inj (hM x hx1).1 (hM x hx1).2 he.1 he.2 (by simpa using h)
      simp [this.1, this.2] at hx2
    rw [this]
    simp
  · rw [putF_other _ _ hl]
    unfold waitF putM
    rw [List.find?_append, List.find?_filter]
    have e2 : [e].find? (fun a => decide (goalK a.head a.fr = l)) = none := by simp [Ne.symm hl]
    rw [e2, Option.or_none]
    congr 2
    funext a
    by_cases h : goalK a.head a.fr = l
    · have : ¬ (a.head = e.head ∧ a.fr = e.fr) := fun ⟨h1, h2⟩ => hl (by rw [← h, h1, h2])
      simp only [h, this, decide_true, decide_false, Bool.not_false, and_self]
    · simp only [h, decide_false, Bool.false_eq_true, and_false]
end Go.Proofs.YtokdhgocgicdnaaGreatDoor

/- A search in memory, whole; what its calls may turn. -/
namespace Go.Proofs.YtokdhgocgicdnaaGreatDoor
open Go.RowKit Go.Maps Go.Conc

/-- of what was there only blocks of T have turned -/
structure Turn (T : Nat → Prop) (w w' : World) : Prop where
  os : w'.os = w.os
  tape : w'.tape = w.tape
  output : w'.output = w.output
  size : w.heap.size ≤ w'.heap.size
  block : ∀ k, k < w.heap.size → ¬ T k → w'.heap[k]? = w.heap[k]?
section
variable {T T' : Nat → Prop} {w w' w'' : World}
theorem Turn.refl (T : Nat → Prop) (w : World) : Turn T w w := ⟨rfl, rfl, rfl, Nat.le_refl _, fun _ _ _ => rfl⟩
theorem Turn.trans (h : Turn T w w') (h' : Turn T' w' w'') (hT : ∀ k, T' k → T k ∨ w.heap.size ≤ k) : Turn T w w'' :=
  ⟨h'.os.trans h.os, h'.tape.trans h.tape, h'.output.trans h.output, Nat.le_trans h.size h'.size, fun k hk hn => (h'.block k (Nat.lt_of_lt_of_le hk h.size) fun ht => (hT k ht).elim hn (by omega)).trans (h.block k hk hn)⟩
theorem Turn.of_below (h : Below w.heap.size w w') : Turn T w w' := ⟨h.os, h.tape, h.output, h.size, fun k hk _ => h.block k hk⟩
theorem Turn.of_grown {b : Nat} (h : w.grownBy w' (some b)) (hb : T b) : Turn T w w' := ⟨h.os, h.tape, h.output, h.size, fun k hk hn => h.block k hk (fun e => hn (by injection e with e; rw [e]; exact hb))⟩
theorem Turn.row (h : Turn T w w') {g : Nat} {t : TypeId} {cur : Array Value} (r : Row w g t cur) (hn : ¬ T g) : Row w' g t cur := (h.block g r.lt hn).trans r
theorem Turn.below (h : Turn T w w') {B : Nat} (hB : ∀ k, T k → B ≤ k) (hw : B ≤ w.heap.size) : Below B w w' := ⟨h.os, h.tape, h.output, h.size, fun k hk => h.block k (by omega) fun ht => by have := hB k ht; omega⟩
theorem Turn.more (h : Turn T w w') (hT : ∀ k, T k → T' k) : Turn T' w w' := ⟨h.os, h.tape, h.output, h.size, fun k hk hn => h.block k hk fun ht => hn (hT k ht)⟩
theorem Turn.setChan (w : World) (c cap : Nat) (buf : Array Value) (cl : Bool) (s r : Nat) (tm : Bool) (hc : T c) : Turn T w (w.setChan c cap buf cl s r tm) :=
  ⟨rfl, rfl, rfl, by simp [World.setChan], fun k _ hn => by
    have hne : c ≠ k := fun e => hn (by rw [← e]; exact hc)
    simp only [World.setChan]; rw [Array.getElem?_setIfInBounds_ne hne]⟩
end

/-- where a search lies: its rules and its text, ahead of hi; its maps and its queue, from base on -/
structure Env where
  A : Option Addr
  c : Nat
  B : Option Addr
  d : Nat
  hi : Nat
  base : Nat
  bk : Nat
  bf : Nat
  bw : Nat
  bq : Nat
  cap : Nat
def Env.v (E : Env) (n m : Nat) : Value := .agg #[.slice E.A n E.c, .slice E.B m E.d, .map (some E.bk), .map (some E.bf), .map (some E.bw), .chan (some E.bq)]
def Env.T (E : Env) (M : List WtM) (k : Nat) : Prop := k = E.bk ∨ k = E.bf ∨ k = E.bw ∨ k = E.bq ∨ ∃ e ∈ M, e.blk = k
def flatL (ls : List Look) : List Value := ls.flatMap fun l => [.int .i64 (l.rule : Int), .int .i64 (l.done : Int), .int .i64 (l.fr : Int), .int .i64 (l.at' : Int)]
theorem flatL_snoc (ls : List Look) (l : Look) : flatL (ls ++ [l]) = flatL ls ++ [.int .i64 (l.rule : Int), .int .i64 (l.done : Int), .int .i64 (l.fr : Int), .int .i64 (l.at' : Int)] := by unfold flatL; rw [List.flatMap_append]; simp
theorem flatL_len (ls : List Look) : (flatL ls).length = ls.length * 4 := by unfold flatL; exact length_flat_const _ _ 4 fun _ _ => rfl
theorem flatL_at (ls : List Look) (i : Nat) (h : i < ls.length) : (flatL ls)[i * 4]? = some (.int .i64 (ls[i].rule : Int)) ∧ (flatL ls)[i * 4 + 1]? = some (.int .i64 (ls[i].done : Int)) ∧ (flatL ls)[i * 4 + 2]? = some (.int .i64 (ls[i].fr : Int)) ∧ (flatL ls)[i * 4 + 3]? = some (.int .i64 (ls[i].at' : Int)) := by
  induction ls generalizing i with
  | nil => simp at h
  | cons a l ih =>
    cases i with
    | zero => simp [flatL]
    | succ i =>
      have := ih i (by simpa using h)
      have e : flatL (a :: l) = [.int .i64 (a.rule : Int), .int .i64 (a.done : Int), .int .i64 (a.fr : Int), .int .i64 (a.at' : Int)] ++ flatL l := by unfold flatL; rw [List.flatMap_cons]
      have g : ∀ j, (flatL (a :: l))[j + 4]? = (flatL l)[j]? := fun j => by rw [e, List.getElem?_append_right (by simp)]; simp
      rw [show (i + 1) * 4 = i * 4 + 4 by omega, show i * 4 + 4 + 1 = i * 4 + 1 + 4 by omega, show i * 4 + 4 + 2 = i * 4 + 2 + 4 by omega, show i * 4 + 4 + 3 = i * 4 + 3 + 4 by omega, g, g, g, g]
      simpa using this
/-- a right grammar's fruitful rules, and a right text -/
structure Fits (rs : List RuleD) (t : List ByteArray) : Prop where
  few : rs.length ≤ 20
  len : ∀ i (h : i < rs.length), rs[i].body.length ≤ 5
  head : ∀ i (h : i < rs.length), headB rs[i].head = true
  body : ∀ i (h : i < rs.length), ∀ s ∈ rs[i].body, symOK s = true
  short : t.length ≤ 12
  tok : ∀ s ∈ t, tokB s = true
theorem Sound.ok {rs : List RuleD} {t : List ByteArray} {l : Look} (S : Sound rs t l) (F : Fits rs t) : l.ok := by
  have h1 := S.rule
  have h2 := S.done
  have h3 := S.le
  have h4 := S.fit
  have h5 := F.few
  have h6 := F.len _ S.rule
  have h7 := F.short
  exact ⟨by omega, by omega, by omega, by omega⟩
theorem mostTo_le {rs : List RuleD} {t : List ByteArray} (F : Fits rs t) (k : Nat) (hk : k ≤ rs.length) : mostTo rs (t.length + 1) k ≤ k * 1014 := by
  induction k with
  | zero => simp [mostTo]
  | succ k ih =>
    have := ih (by omega)
    have h1 := F.len k (by omega)
    have h2 := F.short
    have h3 : (t.length + 1) * (t.length + 1) ≤ 13 * 13 := Nat.mul_le_mul (by omega) (by omega)
    have h4 : (rs[k].body.length + 1) * ((t.length + 1) * (t.length + 1)) ≤ 6 * (13 * 13) := Nat.mul_le_mul (by omega) h3
    rw [mostTo_succ (by omega), Nat.mul_assoc]
    omega

structure Sea (w : World) (E : Env) (rs : List RuleD) (t : List ByteArray) (M : List WtM) (S : St) : Prop where
  fits : Fits rs t
  inv : Inv rs t S
  rules : Rules w 0 E.hi (.slice E.A rs.length E.c) rs
  text : Strs w 0 E.hi (.slice E.B t.length E.d) t
  hib : E.hi ≤ E.base
  known : MapAt w 151 boolE E.bk S.known.length (memF (S.known.map lookK))
  found : MapAt w 82 boolE E.bf S.found.length (memF (S.found.map fun p => pieceK p.1 p.2.1 p.2.2))
  wait : MapAt w 122 rawE E.bw S.nw (waitF M)
  queue : ∃ s r, w.heap[E.bq]? = some (.chan E.cap ((S.known.drop S.rc).map lookV).toArray false s r false)
  room : E.cap = mostTo rs (t.length + 1) rs.length
  rows : ∀ e ∈ M, w.ownsRow E.base 151 4 e.v e.ls.length (flatL e.ls) ∧ e.ls = S.wt e.head e.fr ∧ e.ls ≠ [] ∧ e.ls.length ≤ S.nw ∧ e.head.size ≤ 4 ∧ e.fr ≤ 12
  all : ∀ h i, S.wt h i ≠ [] → ∃ e ∈ M, e.head = h ∧ e.fr = i
  keys : M.Pairwise fun a b => ¬ (a.head = b.head ∧ a.fr = b.fr)
  blks : M.Pairwise fun a b => a.blk ≠ b.blk
  low : E.base ≤ E.bk ∧ E.base ≤ E.bf ∧ E.base ≤ E.bw ∧ E.base ≤ E.bq
  apart : E.bk ≠ E.bf ∧ E.bk ≠ E.bw ∧ E.bf ≠ E.bw
section
variable {w w' : World} {E : Env} {rs : List RuleD} {t : List ByteArray} {M : List WtM} {S : St}
theorem WtM.row_at {e : WtM} {base : Nat} (h : w.ownsRow base 151 4 e.v e.ls.length (flatL e.ls)) : ∃ cur, base ≤ e.blk ∧ w.heap[e.blk]? = some (.cells cur 151 (0, 0)) ∧ e.ls.length ≤ e.cap ∧ e.cap ≤ maxLen ∧ cur.size = e.cap * 4 ∧ cur.toList.take (e.ls.length * 4) = flatL e.ls := by
  rcases h.2 with ⟨h1, _⟩ | ⟨g, cap, cur, h1, h2, h3, h4, h5, h6, h7⟩
  · simp [WtM.v] at h1
  · simp only [WtM.v, Value.slice.injEq, Option.some.injEq, Addr.mk.injEq, and_true, true_and] at h1
    obtain ⟨rfl, rfl⟩ := h1
    exact ⟨cur, h2, h3, h4, h5, h6, h7⟩
theorem WtM.row_keep {e : WtM} {base : Nat} (h : w.ownsRow base 151 4 e.v e.ls.length (flatL e.ls)) (k : w'.heap[e.blk]? = w.heap[e.blk]?) : w'.ownsRow base 151 4 e.v e.ls.length (flatL e.ls) := by
  obtain ⟨cur, h2, h3, h4, h5, h6, h7⟩ := WtM.row_at h
  exact ⟨flatL_len _, .inr ⟨e.blk, e.cap, cur, rfl, h2, k.trans h3, h4, h5, h6, h7⟩⟩
theorem Sea.chan_lt (s : Sea w E rs t M S) : E.bq < w.heap.size := by
  obtain ⟨a, b, h⟩ := s.queue
  exact (Array.getElem?_eq_some_iff.1 h).1
theorem MapAt.no_chan {kt : TypeId} {R : Rd} {b n q cap x y : Nat} {f : Lit → Option (DataW Unit)} {buf : Array Value} {cl tm : Bool} (h : MapAt w kt R b n f) (hq : w.heap[q]? = some (.chan cap buf cl x y tm)) : q ≠ b := by
  rintro rfl
  obtain ⟨D, ⟨es, ck, h1, _⟩, _⟩ := h
  rw [h1] at hq
  cases hq
theorem MapAt.no_cells {kt ty : TypeId} {R : Rd} {b n q : Nat} {f : Lit → Option (DataW Unit)} {cur : Array Value} {fz : Nat × Nat} (h : MapAt w kt R b n f) (hq : w.heap[q]? = some (.cells cur ty fz)) : q ≠ b := by
  rintro rfl
  obtain ⟨D, ⟨es, ck, h1, _⟩, _⟩ := h
  rw [h1] at hq
  cases hq
theorem Sea.chan_ne (s : Sea w E rs t M S) : E.bq ≠ E.bk ∧ E.bq ≠ E.bf ∧ E.bq ≠ E.bw := by
  obtain ⟨a, b, h⟩ := s.queue
  exact ⟨s.known.no_chan h, s.found.no_chan h, s.wait.no_chan h⟩
theorem Sea.blk_ne (s : Sea w E rs t M S) {e : WtM} (he : e ∈ M) : e.blk ≠ E.bk ∧ e.blk ≠ E.bf ∧ e.blk ≠ E.bw ∧ e.blk ≠ E.bq := by
  obtain ⟨cur, _, h, _⟩ := WtM.row_at (s.rows e he).1
  refine ⟨s.known.no_cells h, s.found.no_cells h, s.wait.no_cells h, fun e' => ?_⟩
  obtain ⟨a, b, h'⟩ := s.queue
  rw [e', h'] at h
  cases h
theorem Sea.T_lt (s : Sea w E rs t M S) {k : Nat} (h : E.T M k) : k < w.heap.size := by
  rcases h with rfl | rfl | rfl | rfl | ⟨e, he, rfl⟩
  · exact s.known.lt
  · exact s.found.lt
  · exact s.wait.lt
  · exact s.chan_lt
  · obtain ⟨cur, _, h, _⟩ := WtM.row_at (s.rows e he).1
    exact (Array.getElem?_eq_some_iff.1 h).1
theorem Sea.T_low (s : Sea w E rs t M S) {k : Nat} (h : E.T M k) : E.base ≤ k := by
  rcases h with rfl | rfl | rfl | rfl | ⟨e, he, rfl⟩
  · exact s.low.1
  · exact s.low.2.1
  · exact s.low.2.2.1
  · exact s.low.2.2.2
  · obtain ⟨cur, h, _⟩ := WtM.row_at (s.rows e he).1
    exact h
theorem Sea.base_lt (s : Sea w E rs t M S) : E.base < w.heap.size := by have := s.known.lt; have := s.low.1; omega
/-- what it holds stands as it stood, and what it reads -/
theorem Sea.keep (s : Sea w E rs t M S) (h : ∀ k, k < E.base ∨ E.T M k → w'.heap[k]? = w.heap[k]?) : Sea w' E rs t M S := by
  have hr : Keeps 0 E.hi w w' := fun k _ hk => h k (.inl (by have := s.hib; omega))
  obtain ⟨a, b, hq⟩ := s.queue
  exact ⟨s.fits, s.inv, s.rules.keep hr, s.text.keep hr, s.hib, s.known.keep (h _ (.inr (.inl rfl))), s.found.keep (h _ (.inr (.inr (.inl rfl)))), s.wait.keep (h _ (.inr (.inr (.inr (.inl rfl))))),
    ⟨a, b, (h _ (.inr (.inr (.inr (.inr (.inl rfl)))))).trans hq⟩, s.room, fun e he => ⟨WtM.row_keep (s.rows e he).1 (h _ (.inr (.inr (.inr (.inr (.inr ⟨e, he, rfl⟩)))))), (s.rows e he).2⟩, s.all, s.keys, s.blks, s.low, s.apart⟩
theorem Sea.below (s : Sea w E rs t M S) (h : Below w.heap.size w w') : Sea w' E rs t M S :=
  s.keep fun k hk => h.block k (by rcases hk with hk | hk; have := s.base_lt; omega; exact s.T_lt hk)
theorem Sea.alloc (s : Sea w E rs t M S) (o : Obj) : Sea (w.alloc o) E rs t M S := s.below (al1 w o)
theorem Sea.sets (s : Sea w E rs t M S) {p : Addr} (hp : E.base ≤ p.block) (hT : ¬ E.T M p.block) (u : Value) : Sea (w.setCell p u) E rs t M S :=
  s.keep fun k hk => Below.heap_setCell _ _ _ _ (by rintro rfl; rcases hk with hk | hk; omega; exact hT hk)
/-- what a call of the search leaves -/
def SeaTo (w w' : World) (E : Env) (rs : List RuleD) (t : List ByteArray) (M : List WtM) (S' : St) : Prop :=
  ∃ M', Sea w' E rs t M' S' ∧ Turn (E.T M) w w' ∧ ∀ k, E.T M' k → E.T M k ∨ w.heap.size ≤ k
theorem SeaTo.same (s : Sea w' E rs t M S) (h : Turn (E.T M) w w') : SeaTo w w' E rs t M S := ⟨M, s, h, fun _ hk => .inl hk⟩
theorem Sea.cap_le (s : Sea w E rs t M S) : E.cap ≤ 20280 := by
  have h1 := s.room
  have h2 := mostTo_le s.fits rs.length (Nat.le_refl _)
  have h3 := s.fits.few
  omega
theorem Sea.known_few (s : Sea w E rs t M S) : S.known.length ≤ E.cap := by rw [s.room]; exact looks_few s.inv.nodup s.inv.sound
theorem Sea.nw_few (s : Sea w E rs t M S) : S.nw ≤ 20280 := by
  have h1 := s.inv.nw
  have h2 := s.inv.rc
  have h3 := s.known_few
  have h4 := s.cap_le
  omega
theorem Sea.isKnown (s : Sea w E rs t M S) {l : Look} (hl : Sound rs t l) : lookK l ∈ S.known.map lookK ↔ l ∈ S.known := by
  rw [List.mem_map]
  constructor
  · rintro ⟨x, hx, e⟩
    rw [lookK_inj ((s.inv.sound x hx).ok s.fits) (hl.ok s.fits) e] at hx
    exact hx
  · exact fun h => ⟨l, h, rfl⟩
theorem Inv.found_ok (I : Inv rs t S) (F : Fits rs t) {h : ByteArray} {i k : Nat} (hm : (h, i, k) ∈ S.found) : h.size ≤ 4 ∧ i ≤ 12 ∧ k ≤ 12 := by
  obtain ⟨h1, h2, h3⟩ := I.found h i k hm
  have := h3.le
  have := F.short
  exact ⟨headB_size h1, by omega, by omega⟩
theorem Sea.isFound (s : Sea w E rs t M S) {h : ByteArray} {i k : Nat} (hh : h.size ≤ 4) (hi : i ≤ 12) (hk : k ≤ 12) : pieceK h i k ∈ S.found.map (fun p => pieceK p.1 p.2.1 p.2.2) ↔ (h, i, k) ∈ S.found := by
  rw [List.mem_map]
  constructor
  · rintro ⟨⟨h', i', k'⟩, hx, e⟩
    have b := s.inv.found_ok s.fits hx
    simp only at e
    obtain ⟨rfl, rfl, rfl⟩ := pieceK_inj (by unfold maxLen; omega) (by omega) (by omega) (by unfold maxLen; omega) (by omega) (by omega) e
    exact hx
  · exact fun hm => ⟨(h, i, k), hm, rfl⟩
end
end Go.Proofs.YtokdhgocgicdnaaGreatDoor

/- What a grammar of sets reads as in memory, and how its list of rules grows. -/
namespace Go.Proofs.YtokdhgocgicdnaaGreatDoor
open Go.RowKit

/-- rules of sets: three cells each -/
def RulesN (w : World) (hi : Nat) (v : Value) (rl : List RuleN) : Prop :=
  ∃ A c, v = .slice A rl.length c ∧ rl.length ≤ c ∧ c ≤ maxLen ∧
    (0 < rl.length → ∃ b off, A = some ⟨b, off, none⟩ ∧ b < hi ∧ ∀ i (h : i < rl.length), rl[i].num ≤ 1000 ∧ rl[i].head < 4194304 ∧
      w.cell? ⟨b, off + i * 3, none⟩ = some (.int .i64 (rl[i].num : Nat)) ∧ w.cell? ⟨b, off + i * 3 + 1, none⟩ = some (.int .u32 (rl[i].head : Nat)) ∧
      ∃ u, w.cell? ⟨b, off + i * 3 + 2, none⟩ = some u ∧ BitsAt w hi u rl[i].body)
theorem RulesN.below {w w' : World} {hi : Nat} {v : Value} {rl : List RuleN} (h : RulesN w hi v rl) {B : Nat} (k : Below B w w') (hB : hi ≤ B) : RulesN w' hi v rl := by
  obtain ⟨A, c, h1, h2, h3, h5⟩ := h
  refine ⟨A, c, h1, h2, h3, fun hp => ?_⟩
  obtain ⟨b, off, e, hl, hc⟩ := h5 hp
  refine ⟨b, off, e, hl, fun i hi => ?_⟩
  obtain ⟨a1, a2, a3, a4, u, a5, a6⟩ := hc i hi
  exact ⟨a1, a2, (k.cell (p := ⟨b, off + i * 3, none⟩) (by show b < B; omega)).trans a3, (k.cell (p := ⟨b, off + i * 3 + 1, none⟩) (by show b < B; omega)).trans a4, u,
    (k.cell (p := ⟨b, off + i * 3 + 2, none⟩) (by show b < B; omega)).trans a5, a6.below k hB⟩
theorem RulesN.more {w : World} {hi hi' : Nat} {v : Value} {rl : List RuleN} (h : RulesN w hi v rl) (hh : hi ≤ hi') : RulesN w hi' v rl := by
  obtain ⟨A, c, h1, h2, h3, h5⟩ := h
  refine ⟨A, c, h1, h2, h3, fun hp => ?_⟩
  obtain ⟨b, off, e, hl, hc⟩ := h5 hp
  refine ⟨b, off, e, by omega, fun i hi => ?_⟩
  obtain ⟨a1, a2, a3, a4, u, a5, a6⟩ := hc i hi
  exact ⟨a1, a2, a3, a4, u, a5, a6.more hh⟩
theorem RulesN.nil (w : World) (hi : Nat) : RulesN w hi (.slice none 0 0) [] := ⟨none, 0, rfl, Nat.le_refl _, by unfold maxLen; omega, fun h => by simp at h⟩
theorem Strs.nil (w : World) (lo hi : Nat) : Strs w lo hi (.slice none 0 0) [] := ⟨none, 0, rfl, Nat.le_refl _, by unfold maxLen; omega, by simp, fun h => by simp at h⟩
/-- a grammar of sets -/
def SetsG (w : World) (hi : Nat) (v : Value) (hs : List ByteArray) (rl : List RuleN) : Prop := ∃ hv rv, v = .agg #[hv, rv] ∧ Strs w 0 hi hv hs ∧ RulesN w hi rv rl
theorem SetsG.below {w w' : World} {hi : Nat} {v : Value} {hs : List ByteArray} {rl : List RuleN} (h : SetsG w hi v hs rl) {B : Nat} (k : Below B w w') (hB : hi ≤ B) : SetsG w' hi v hs rl := by
  obtain ⟨hv, rv, e, h1, h2⟩ := h
  exact ⟨hv, rv, e, h1.below k hB, h2.below k hB⟩
theorem SetsG.more {w : World} {hi hi' : Nat} {v : Value} {hs : List ByteArray} {rl : List RuleN} (h : SetsG w hi v hs rl) (hh : hi ≤ hi') : SetsG w hi' v hs rl := by
  obtain ⟨hv, rv, e, h1, h2⟩ := h
  exact ⟨hv, rv, e, h1.more (Nat.le_refl _) hh, h2.more hh⟩
theorem SetsG.form {w : World} {hi : Nat} {v : Value} {hs : List ByteArray} {rl : List RuleN} (h : SetsG w hi v hs rl) :
    ∃ A c B d, v = .agg #[.slice A hs.length c, .slice B rl.length d] ∧ Strs w 0 hi (.slice A hs.length c) hs ∧ RulesN w hi (.slice B rl.length d) rl := by
  obtain ⟨hv, rv, rfl, h1, h2⟩ := h
  have h1' := h1
  have h2' := h2
  obtain ⟨A, c, rfl, -⟩ := h1'
  obtain ⟨B, d, rfl, -⟩ := h2'
  exact ⟨A, c, B, d, rfl, h1, h2⟩

/-- a list of sets that stands ahead of base, or in a block of sets -/
def BitsX (w : World) (base : Nat) (v : Value) (l : List Nat) : Prop :=
  ∃ A c, v = .slice A l.length c ∧ l.length ≤ c ∧ c ≤ maxLen ∧ (∀ x ∈ l, x < 4194304) ∧
    (0 < l.length → ∃ b off, A = some ⟨b, off, none⟩ ∧ b < w.heap.size ∧ (b < base ∨ ∃ cur, Row w b 144 cur) ∧ ∀ i (h : i < l.length), w.cell? ⟨b, off + i, none⟩ = some (.int .u32 (l[i] : Nat)))
theorem BitsX.at {w : World} {base : Nat} {v : Value} {l : List Nat} (h : BitsX w base v l) : BitsAt w w.heap.size v l := by
  obtain ⟨A, c, h1, h2, h3, h4, h5⟩ := h
  refine ⟨A, c, h1, h2, h3, h4, fun hp => ?_⟩
  obtain ⟨b, off, e, hb, _, hc⟩ := h5 hp
  exact ⟨b, off, e, hb, hc⟩
theorem BitsAt.x {w : World} {base hi : Nat} {v : Value} {l : List Nat} (h : BitsAt w hi v l) (h1 : hi ≤ base) (h2 : base ≤ w.heap.size) : BitsX w base v l := by
  obtain ⟨A, c, a1, a2, a3, a4, a5⟩ := h
  refine ⟨A, c, a1, a2, a3, a4, fun hp => ?_⟩
  obtain ⟨b, off, e, hb, hc⟩ := a5 hp
  exact ⟨b, off, e, by omega, .inl (by omega), hc⟩
theorem BitsX.move {w w' : World} {base : Nat} {v : Value} {l : List Nat} (h : BitsX w base v l) (hs : w.heap.size ≤ w'.heap.size) (hk : ∀ b, b < w.heap.size → (b < base ∨ ∃ cur, Row w b 144 cur) → w'.heap[b]? = w.heap[b]?) : BitsX w' base v l := by
  obtain ⟨A, c, h1, h2, h3, h4, h5⟩ := h
  refine ⟨A, c, h1, h2, h3, h4, fun hp => ?_⟩
  obtain ⟨b, off, e, hb, ho, hc⟩ := h5 hp
  have hkb := hk b hb ho
  exact ⟨b, off, e, by omega, ho.imp id fun ⟨cur, hr⟩ => ⟨cur, hr.same hkb⟩, fun i hi => (World.cell?_of_block (w := w) hkb).trans (hc i hi)⟩
/-- sets in a row of the call's own -/
def Nts (w : World) (base : Nat) (v : Value) (l : List Nat) : Prop := w.ownsRow base 144 1 v l.length (l.map fun (x : Nat) => Value.int .u32 (x : Int))
theorem Nts.nil (w : World) (base : Nat) : Nts w base (.slice none 0 0) [] := World.ownsRow_nil _ _ _ _
theorem Nts.one {w : World} {base : Nat} {v : Value} {l : List Nat} (x : Nat) (h : w.ownsRow base 144 1 v (l.length + 1) ((l.map fun (x : Nat) => Value.int .u32 (x : Int)) ++ [.int .u32 (x : Int)])) : Nts w base v (l ++ [x]) := by
  unfold Nts
  rw [List.length_append, List.map_append]
  exact h
theorem Nts.x {w : World} {base bb : Nat} {v : Value} {l : List Nat} (h : Nts w base v l) (hz : ∀ x ∈ l, x < 4194304) : BitsX w bb v l := by
  rcases h.2 with ⟨rfl, h0⟩ | ⟨g, cap, cur, rfl, hb, hh, hc, hm, hs, ht⟩
  · obtain rfl : l = [] := List.eq_nil_of_length_eq_zero h0
    exact ⟨none, 0, rfl, Nat.le_refl _, by unfold maxLen; omega, by simp, fun h => by simp at h⟩
  · have hr : Row w g 144 cur := hh
    refine ⟨_, cap, rfl, hc, hm, hz, fun _ => ⟨g, 0, rfl, hr.lt, .inr ⟨cur, hr⟩, fun i hi => ?_⟩⟩
    have h1 : (cur.toList.take (l.length * 1))[i]? = some (.int .u32 (l[i] : Nat)) := by rw [ht, List.getElem?_map, List.getElem?_eq_getElem hi]; rfl
    rw [List.getElem?_take_of_lt (by omega)] at h1
    rw [Nat.zero_add, hr.cell, ← Array.getElem?_toList]
    exact h1

def flatN (xs : List (RuleN × Value)) : List Value := xs.flatMap fun x => [.int .i64 (x.1.num : Int), .int .u32 (x.1.head : Int), x.2]
theorem flatN_snoc (xs : List (RuleN × Value)) (x : RuleN × Value) : flatN (xs ++ [x]) = flatN xs ++ [.int .i64 (x.1.num : Int), .int .u32 (x.1.head : Int), x.2] := by simp [flatN]
theorem flatN_at (xs : List (RuleN × Value)) (i : Nat) (h : i < xs.length) : (flatN xs)[i * 3]? = some (.int .i64 (xs[i].1.num : Int)) ∧ (flatN xs)[i * 3 + 1]? = some (.int .u32 (xs[i].1.head : Int)) ∧ (flatN xs)[i * 3 + 2]? = some xs[i].2 := by
  induction xs generalizing i with
  | nil => simp at h
  | cons x l ih =>
    cases i with
    | zero => exact ⟨rfl, rfl, rfl⟩
    | succ i =>
      have := ih i (by simpa using h)
      have e : flatN (x :: l) = .int .i64 (x.1.num : Int) :: .int .u32 (x.1.head : Int) :: x.2 :: flatN l := rfl
      rw [e, show (i + 1) * 3 = i * 3 + 1 + 1 + 1 by omega]
      simpa using this
def GrowN (w : World) (base bb : Nat) (v : Value) (xs : List (RuleN × Value)) : Prop :=
  w.ownsRow base 147 3 v xs.length (flatN xs) ∧ ∀ x ∈ xs, x.1.num ≤ 1000 ∧ x.1.head < 4194304 ∧ BitsX w bb x.2 x.1.body
theorem GrowN.nil (w : World) (base bb : Nat) : GrowN w base bb (.slice none 0 0) [] := ⟨World.ownsRow_nil _ _ _ _, by simp⟩
theorem GrowN.move {w w' : World} {base bb : Nat} {v : Value} {xs : List (RuleN × Value)} (h : GrowN w base bb v xs) (hs : w.heap.size ≤ w'.heap.size)
    (h1 : ∀ g, v.ownBlock = some g → w'.heap[g]? = w.heap[g]?) (h2 : ∀ b, b < w.heap.size → (b < bb ∨ ∃ cur, Row w b 144 cur) → w'.heap[b]? = w.heap[b]?) : GrowN w' base bb v xs := by
  obtain ⟨a, b⟩ := h
  refine ⟨⟨a.1, ?_⟩, fun x hx => ?_⟩
  · rcases a.2 with a2 | ⟨g, cap, cur, rfl, hb, hh, r⟩
    · exact .inl a2
    · exact .inr ⟨g, cap, cur, rfl, hb, (h1 g rfl).trans hh, r⟩
  · obtain ⟨b1, b2, b3⟩ := b x hx
    exact ⟨b1, b2, b3.move hs h2⟩
theorem GrowN.below {w w' : World} {base bb : Nat} {v : Value} {xs : List (RuleN × Value)} (h : GrowN w base bb v xs) (k : Below w.heap.size w w') : GrowN w' base bb v xs :=
  h.move k.size (fun g hg => k.block g (h.1.lt g hg).2) (fun b hb _ => k.block b hb)
theorem GrowN.away {w : World} {base bb : Nat} {v : Value} {xs : List (RuleN × Value)} (h : GrowN w base bb v xs) {p : Addr} {t : TypeId} {cur : Array Value} (hr : Row w p.block t cur) (h1 : t ≠ 147) (h2 : t ≠ 144) (hp : bb ≤ p.block) (u : Value) : GrowN (w.setCell p u) base bb v xs := by
  refine h.move (by simp [World.setCell]) (fun g hg => Below.heap_setCell _ _ _ _ ?_) (fun b hb ho => Below.heap_setCell _ _ _ _ ?_)
  · rcases h.1.2 with ⟨rfl, _⟩ | ⟨g', cap, c', rfl, _, hh, _⟩
    · simp [Value.ownBlock] at hg
    · have : g' = g := by simpa [Value.ownBlock] using hg
      subst this
      exact fun e => hr.apart (t' := 147) (cur' := c') hh h1 e.symm
  · rcases ho with ho | ⟨cu, hu⟩
    · omega
    · exact fun e => hr.apart hu h2 e.symm
theorem GrowN.snoc {w w' : World} {base bb : Nat} {v v' : Value} {xs : List (RuleN × Value)} {r : RuleN} {u : Value} (h : GrowN w base bb v xs)
    (ho : w'.ownsRow base 147 3 v' (xs.length + 1) (flatN xs ++ [.int .i64 (r.num : Int), .int .u32 (r.head : Int), u])) (hg : w.grownBy w' v.ownBlock)
    (h1 : r.num ≤ 1000) (h2 : r.head < 4194304) (h3 : BitsX w bb u r.body) (hbb : bb ≤ base) : GrowN w' base bb v' (xs ++ [(r, u)]) := by
  obtain ⟨a, b⟩ := h
  have keep : ∀ b, b < w.heap.size → (b < bb ∨ ∃ cur, Row w b 144 cur) → w'.heap[b]? = w.heap[b]? := fun b hb hob => by
    refine hg.block b hb fun e => ?_
    rcases a.2 with ⟨rfl, _⟩ | ⟨g', cap, c', rfl, hgb, hh, _⟩
    · simp [Value.ownBlock] at e
    · have : b = g' := by simpa [Value.ownBlock] using e
      subst this
      rcases hob with hob | ⟨cu, hu⟩
      · omega
      · exact hu.apart (t' := 147) (cur' := c') hh (by decide) rfl
  refine ⟨?_, fun x hx => ?_⟩
  · rw [flatN_snoc, List.length_append]; exact ho
  · rw [List.mem_append, List.mem_singleton] at hx
    rcases hx with hx | rfl
    · obtain ⟨b1, b2, b3⟩ := b x hx
      exact ⟨b1, b2, b3.move hg.size keep⟩
    · exact ⟨h1, h2, h3.move hg.size keep⟩
theorem GrowN.done {w : World} {base bb : Nat} {v : Value} {xs : List (RuleN × Value)} (h : GrowN w base bb v xs) : RulesN w w.heap.size v (xs.map (·.1)) := by
  obtain ⟨a, b⟩ := h
  rcases a.2 with ⟨rfl, h0⟩ | ⟨g, cap, cur, rfl, hb, hh, hc, hm, hs, ht⟩
  · obtain rfl : xs = [] := List.eq_nil_of_length_eq_zero h0
    exact RulesN.nil _ _
  · have hr : Row w g 147 cur := hh
    refine ⟨_, cap, by rw [List.length_map], by rw [List.length_map]; exact hc, hm, fun hp => ⟨g, 0, rfl, hr.lt, fun i hi => ?_⟩⟩
    rw [List.length_map] at hi
    obtain ⟨b1, b2, b3⟩ := b xs[i] (List.getElem_mem hi)
    obtain ⟨f1, f2, f3⟩ := flatN_at xs i hi
    have cell : ∀ j, j < xs.length * 3 → w.cell? ⟨g, 0 + j, none⟩ = (flatN xs)[j]? := fun j hj => by
      rw [Nat.zero_add, hr.cell, ← ht, List.getElem?_take_of_lt hj, Array.getElem?_toList]
    simp only [List.getElem_map]
    refine ⟨b1, b2, (cell (i * 3) (by omega)).trans f1, ?_, xs[i].2, ?_, b3.at⟩
    · rw [Nat.add_assoc]; exact (cell (i * 3 + 1) (by omega)).trans f2
    · rw [Nat.add_assoc]; exact (cell (i * 3 + 2) (by omega)).trans f3
end Go.Proofs.YtokdhgocgicdnaaGreatDoor
