/- A search in memory, whole; what its calls may turn. -/
import Derived.Test.YtmhdbjoljonhdaaSea
namespace Go.Proofs.Ytmhdbjoljonhdaa
open Go.RowKit Go.Maps Go.Conc

/-- of what was there only blocks of T have turned -/
structure Turn (T : Nat → Prop) (w w' : World) : Prop where
  os : w'.os = w.os
  tape : w'.tape = w.tape
  output : w'.output = w.output
  size : w.heap.size ≤ w'.heap.size
  block : ∀ k, k < w.heap.size → ¬ T k → w'.heap[k]? = w.heap[k]?
section
variable {T T' : Nat → Prop} {w w' w'' : World}
theorem Turn.refl (T : Nat → Prop) (w : World) : Turn T w w := ⟨rfl, rfl, rfl, Nat.le_refl _, fun _ _ _ => rfl⟩
theorem Turn.trans (h : Turn T w w') (h' : Turn T' w' w'') (hT : ∀ k, T' k → T k ∨ w.heap.size ≤ k) : Turn T w w'' :=
  ⟨h'.os.trans h.os, h'.tape.trans h.tape, h'.output.trans h.output, Nat.le_trans h.size h'.size, fun k hk hn => (h'.block k (Nat.lt_of_lt_of_le hk h.size) fun ht => (hT k ht).elim hn (by omega)).trans (h.block k hk hn)⟩
theorem Turn.of_below (h : Below w.heap.size w w') : Turn T w w' := ⟨h.os, h.tape, h.output, h.size, fun k hk _ => h.block k hk⟩
theorem Turn.of_grown {b : Nat} (h : w.grownBy w' (some b)) (hb : T b) : Turn T w w' := ⟨h.os, h.tape, h.output, h.size, fun k hk hn => h.block k hk (fun e => hn (by injection e with e; rw [e]; exact hb))⟩
theorem Turn.row (h : Turn T w w') {g : Nat} {t : TypeId} {cur : Array Value} (r : Row w g t cur) (hn : ¬ T g) : Row w' g t cur := (h.block g r.lt hn).trans r
theorem Turn.below (h : Turn T w w') {B : Nat} (hB : ∀ k, T k → B ≤ k) (hw : B ≤ w.heap.size) : Below B w w' := ⟨h.os, h.tape, h.output, h.size, fun k hk => h.block k (by omega) fun ht => by have := hB k ht; omega⟩
theorem Turn.more (h : Turn T w w') (hT : ∀ k, T k → T' k) : Turn T' w w' := ⟨h.os, h.tape, h.output, h.size, fun k hk hn => h.block k hk fun ht => hn (hT k ht)⟩
theorem Turn.setChan (w : World) (c cap : Nat) (buf : Array Value) (cl : Bool) (s r : Nat) (tm : Bool) (hc : T c) : Turn T w (w.setChan c cap buf cl s r tm) :=
  ⟨rfl, rfl, rfl, by simp [World.setChan], fun k _ hn => by
    have hne : c ≠ k := fun e => hn (by rw [← e]; exact hc)
    simp only [World.setChan]; rw [Array.getElem?_setIfInBounds_ne hne]⟩
end

/-- where a search lies: its rules and its text, ahead of hi; its maps and its queue, from base on -/
structure Env where
  A : Option Addr
  c : Nat
  B : Option Addr
  d : Nat
  hi : Nat
  base : Nat
  bk : Nat
  bf : Nat
  bw : Nat
  bq : Nat
  cap : Nat
def Env.v (E : Env) (n m : Nat) : Value := .agg #[.slice E.A n E.c, .slice E.B m E.d, .map (some E.bk), .map (some E.bf), .map (some E.bw), .chan (some E.bq)]
def Env.T (E : Env) (M : List WtM) (k : Nat) : Prop := k = E.bk ∨ k = E.bf ∨ k = E.bw ∨ k = E.bq ∨ ∃ e ∈ M, e.blk = k
def flatL (ls : List Look) : List Value := ls.flatMap fun l => [.int .i64 (l.rule : Int), .int .i64 (l.done : Int), .int .i64 (l.fr : Int), .int .i64 (l.at' : Int)]
theorem flatL_snoc (ls : List Look) (l : Look) : flatL (ls ++ [l]) = flatL ls ++ [.int .i64 (l.rule : Int), .int .i64 (l.done : Int), .int .i64 (l.fr : Int), .int .i64 (l.at' : Int)] := by unfold flatL; rw [List.flatMap_append]; simp
theorem flatL_len (ls : List Look) : (flatL ls).length = ls.length * 4 := by unfold flatL; exact length_flat_const _ _ 4 fun _ _ => rfl
theorem flatL_at (ls : List Look) (i : Nat) (h : i < ls.length) : (flatL ls)[i * 4]? = some (.int .i64 (ls[i].rule : Int)) ∧ (flatL ls)[i * 4 + 1]? = some (.int .i64 (ls[i].done : Int)) ∧ (flatL ls)[i * 4 + 2]? = some (.int .i64 (ls[i].fr : Int)) ∧ (flatL ls)[i * 4 + 3]? = some (.int .i64 (ls[i].at' : Int)) := by
  induction ls generalizing i with
  | nil => simp at h
  | cons a l ih =>
    cases i with
    | zero => simp [flatL]
    | succ i =>
      have := ih i (by simpa using h)
      have e : flatL (a :: l) = [.int .i64 (a.rule : Int), .int .i64 (a.done : Int), .int .i64 (a.fr : Int), .int .i64 (a.at' : Int)] ++ flatL l := by unfold flatL; rw [List.flatMap_cons]
      have g : ∀ j, (flatL (a :: l))[j + 4]? = (flatL l)[j]? := fun j => by rw [e, List.getElem?_append_right (by simp)]; simp
      rw [show (i + 1) * 4 = i * 4 + 4 by omega, show i * 4 + 4 + 1 = i * 4 + 1 + 4 by omega, show i * 4 + 4 + 2 = i * 4 + 2 + 4 by omega, show i * 4 + 4 + 3 = i * 4 + 3 + 4 by omega, g, g, g, g]
      simpa using this
/-- a right grammar's fruitful rules, and a right text -/
structure Fits (rs : List RuleD) (t : List ByteArray) : Prop where
  few : rs.length ≤ 20
  len : ∀ i (h : i < rs.length), rs[i].body.length ≤ 5
  head : ∀ i (h : i < rs.length), headB rs[i].head = true
  body : ∀ i (h : i < rs.length), ∀ s ∈ rs[i].body, symOK s = true
  short : t.length ≤ 12
  tok : ∀ s ∈ t, tokB s = true
theorem Sound.ok {rs : List RuleD} {t : List ByteArray} {l : Look} (S : Sound rs t l) (F : Fits rs t) : l.ok := by
  have h1 := S.rule
  have h2 := S.done
  have h3 := S.le
  have h4 := S.fit
  have h5 := F.few
  have h6 := F.len _ S.rule
  have h7 := F.short
  exact ⟨by omega, by omega, by omega, by omega⟩
theorem mostTo_le {rs : List RuleD} {t : List ByteArray} (F : Fits rs t) (k : Nat) (hk : k ≤ rs.length) : mostTo rs (t.length + 1) k ≤ k * 1014 := by
  induction k with
  | zero => simp [mostTo]
  | succ k ih =>
    have := ih (by omega)
    have h1 := F.len k (by omega)
    have h2 := F.short
    have h3 : (t.length + 1) * (t.length + 1) ≤ 13 * 13 := Nat.mul_le_mul (by omega) (by omega)
    have h4 : (rs[k].body.length + 1) * ((t.length + 1) * (t.length + 1)) ≤ 6 * (13 * 13) := Nat.mul_le_mul (by omega) h3
    rw [mostTo_succ (by omega), Nat.mul_assoc]
    omega

structure Sea (w : World) (E : Env) (rs : List RuleD) (t : List ByteArray) (M : List WtM) (S : St) : Prop where
  fits : Fits rs t
  inv : Inv rs t S
  rules : Rules w 0 E.hi (.slice E.A rs.length E.c) rs
  text : Strs w 0 E.hi (.slice E.B t.length E.d) t
  hib : E.hi ≤ E.base
  known : MapAt w 101 boolE E.bk S.known.length (memF (S.known.map lookK))
  found : MapAt w 99 boolE E.bf S.found.length (memF (S.found.map fun p => pieceK p.1 p.2.1 p.2.2))
  wait : MapAt w 107 rawE E.bw S.nw (waitF M)
  queue : ∃ s r, w.heap[E.bq]? = some (.chan E.cap ((S.known.drop S.rc).map lookV).toArray false s r false)
  room : E.cap = mostTo rs (t.length + 1) rs.length
  rows : ∀ e ∈ M, w.ownsRow E.base 101 4 e.v e.ls.length (flatL e.ls) ∧ e.ls = S.wt e.head e.fr ∧ e.ls ≠ [] ∧ e.ls.length ≤ S.nw ∧ e.head.size ≤ 4 ∧ e.fr ≤ 12
  all : ∀ h i, S.wt h i ≠ [] → ∃ e ∈ M, e.head = h ∧ e.fr = i
  keys : M.Pairwise fun a b => ¬ (a.head = b.head ∧ a.fr = b.fr)
  blks : M.Pairwise fun a b => a.blk ≠ b.blk
  low : E.base ≤ E.bk ∧ E.base ≤ E.bf ∧ E.base ≤ E.bw ∧ E.base ≤ E.bq
  apart : E.bk ≠ E.bf ∧ E.bk ≠ E.bw ∧ E.bf ≠ E.bw
section
variable {w w' : World} {E : Env} {rs : List RuleD} {t : List ByteArray} {M : List WtM} {S : St}
theorem WtM.row_at {e : WtM} {base : Nat} (h : w.ownsRow base 101 4 e.v e.ls.length (flatL e.ls)) : ∃ cur, base ≤ e.blk ∧ w.heap[e.blk]? = some (.cells cur 101 (0, 0)) ∧ e.ls.length ≤ e.cap ∧ e.cap ≤ maxLen ∧ cur.size = e.cap * 4 ∧ cur.toList.take (e.ls.length * 4) = flatL e.ls := by
  rcases h.2 with ⟨h1, _⟩ | ⟨g, cap, cur, h1, h2, h3, h4, h5, h6, h7⟩
  · simp [WtM.v] at h1
  · simp only [WtM.v, Value.slice.injEq, Option.some.injEq, Addr.mk.injEq, and_true, true_and] at h1
    obtain ⟨rfl, rfl⟩ := h1
    exact ⟨cur, h2, h3, h4, h5, h6, h7⟩
theorem WtM.row_keep {e : WtM} {base : Nat} (h : w.ownsRow base 101 4 e.v e.ls.length (flatL e.ls)) (k : w'.heap[e.blk]? = w.heap[e.blk]?) : w'.ownsRow base 101 4 e.v e.ls.length (flatL e.ls) := by
  obtain ⟨cur, h2, h3, h4, h5, h6, h7⟩ := WtM.row_at h
  exact ⟨flatL_len _, .inr ⟨e.blk, e.cap, cur, rfl, h2, k.trans h3, h4, h5, h6, h7⟩⟩
theorem Sea.chan_lt (s : Sea w E rs t M S) : E.bq < w.heap.size := by
  obtain ⟨a, b, h⟩ := s.queue
  exact (Array.getElem?_eq_some_iff.1 h).1
theorem MapAt.no_chan {kt : TypeId} {R : Rd} {b n q cap x y : Nat} {f : Lit → Option (DataW Unit)} {buf : Array Value} {cl tm : Bool} (h : MapAt w kt R b n f) (hq : w.heap[q]? = some (.chan cap buf cl x y tm)) : q ≠ b := by
  rintro rfl
  obtain ⟨D, ⟨es, ck, h1, _⟩, _⟩ := h
  rw [h1] at hq
  cases hq
theorem MapAt.no_cells {kt ty : TypeId} {R : Rd} {b n q : Nat} {f : Lit → Option (DataW Unit)} {cur : Array Value} {fz : Nat × Nat} (h : MapAt w kt R b n f) (hq : w.heap[q]? = some (.cells cur ty fz)) : q ≠ b := by
  rintro rfl
  obtain ⟨D, ⟨es, ck, h1, _⟩, _⟩ := h
  rw [h1] at hq
  cases hq
theorem Sea.chan_ne (s : Sea w E rs t M S) : E.bq ≠ E.bk ∧ E.bq ≠ E.bf ∧ E.bq ≠ E.bw := by
  obtain ⟨a, b, h⟩ := s.queue
  exact ⟨s.known.no_chan h, s.found.no_chan h, s.wait.no_chan h⟩
theorem Sea.blk_ne (s : Sea w E rs t M S) {e : WtM} (he : e ∈ M) : e.blk ≠ E.bk ∧ e.blk ≠ E.bf ∧ e.blk ≠ E.bw ∧ e.blk ≠ E.bq := by
  obtain ⟨cur, _, h, _⟩ := WtM.row_at (s.rows e he).1
  refine ⟨s.known.no_cells h, s.found.no_cells h, s.wait.no_cells h, fun e' => ?_⟩
  obtain ⟨a, b, h'⟩ := s.queue
  rw [e', h'] at h
  cases h
theorem Sea.T_lt (s : Sea w E rs t M S) {k : Nat} (h : E.T M k) : k < w.heap.size := by
  rcases h with rfl | rfl | rfl | rfl | ⟨e, he, rfl⟩
  · exact s.known.lt
  · exact s.found.lt
  · exact s.wait.lt
  · exact s.chan_lt
  · obtain ⟨cur, _, h, _⟩ := WtM.row_at (s.rows e he).1
    exact (Array.getElem?_eq_some_iff.1 h).1
theorem Sea.T_low (s : Sea w E rs t M S) {k : Nat} (h : E.T M k) : E.base ≤ k := by
  rcases h with rfl | rfl | rfl | rfl | ⟨e, he, rfl⟩
  · exact s.low.1
  · exact s.low.2.1
  · exact s.low.2.2.1
  · exact s.low.2.2.2
  · obtain ⟨cur, h, _⟩ := WtM.row_at (s.rows e he).1
    exact h
theorem Sea.base_lt (s : Sea w E rs t M S) : E.base < w.heap.size := by have := s.known.lt; have := s.low.1; omega
/-- what it holds stands as it stood, and what it reads -/
theorem Sea.keep (s : Sea w E rs t M S) (h : ∀ k, k < E.base ∨ E.T M k → w'.heap[k]? = w.heap[k]?) : Sea w' E rs t M S := by
  have hr : Keeps 0 E.hi w w' := fun k _ hk => h k (.inl (by have := s.hib; omega))
  obtain ⟨a, b, hq⟩ := s.queue
  exact ⟨s.fits, s.inv, s.rules.keep hr, s.text.keep hr, s.hib, s.known.keep (h _ (.inr (.inl rfl))), s.found.keep (h _ (.inr (.inr (.inl rfl)))), s.wait.keep (h _ (.inr (.inr (.inr (.inl rfl))))),
    ⟨a, b, (h _ (.inr (.inr (.inr (.inr (.inl rfl)))))).trans hq⟩, s.room, fun e he => ⟨WtM.row_keep (s.rows e he).1 (h _ (.inr (.inr (.inr (.inr (.inr ⟨e, he, rfl⟩)))))), (s.rows e he).2⟩, s.all, s.keys, s.blks, s.low, s.apart⟩
theorem Sea.below (s : Sea w E rs t M S) (h : Below w.heap.size w w') : Sea w' E rs t M S :=
  s.keep fun k hk => h.block k (by rcases hk with hk | hk; have := s.base_lt; omega; exact s.T_lt hk)
theorem Sea.alloc (s : Sea w E rs t M S) (o : Obj) : Sea (w.alloc o) E rs t M S := s.below (al1 w o)
theorem Sea.sets (s : Sea w E rs t M S) {p : Addr} (hp : E.base ≤ p.block) (hT : ¬ E.T M p.block) (u : Value) : Sea (w.setCell p u) E rs t M S :=
  s.keep fun k hk => Below.heap_setCell _ _ _ _ (by rintro rfl; rcases hk with hk | hk; omega; exact hT hk)
/-- what a call of the search leaves -/
def SeaTo (w w' : World) (E : Env) (rs : List RuleD) (t : List ByteArray) (M : List WtM) (S' : St) : Prop :=
  ∃ M', Sea w' E rs t M' S' ∧ Turn (E.T M) w w' ∧ ∀ k, E.T M' k → E.T M k ∨ w.heap.size ≤ k
theorem SeaTo.same (s : Sea w' E rs t M S) (h : Turn (E.T M) w w') : SeaTo w w' E rs t M S := ⟨M, s, h, fun _ hk => .inl hk⟩
theorem Sea.cap_le (s : Sea w E rs t M S) : E.cap ≤ 20280 := by
  have h1 := s.room
  have h2 := mostTo_le s.fits rs.length (Nat.le_refl _)
  have h3 := s.fits.few
  omega
theorem Sea.known_few (s : Sea w E rs t M S) : S.known.length ≤ E.cap := by rw [s.room]; exact looks_few s.inv.nodup s.inv.sound
theorem Sea.nw_few (s : Sea w E rs t M S) : S.nw ≤ 20280 := by
  have h1 := s.inv.nw
  have h2 := s.inv.rc
  have h3 := s.known_few
  have h4 := s.cap_le
  omega
theorem Sea.isKnown (s : Sea w E rs t M S) {l : Look} (hl : Sound rs t l) : lookK l ∈ S.known.map lookK ↔ l ∈ S.known := by
  rw [List.mem_map]
  constructor
  · rintro ⟨x, hx, e⟩
    rw [lookK_inj ((s.inv.sound x hx).ok s.fits) (hl.ok s.fits) e] at hx
    exact hx
  · exact fun h => ⟨l, h, rfl⟩
theorem Inv.found_ok (I : Inv rs t S) (F : Fits rs t) {h : ByteArray} {i k : Nat} (hm : (h, i, k) ∈ S.found) : h.size ≤ 4 ∧ i ≤ 12 ∧ k ≤ 12 := by
  obtain ⟨h1, h2, h3⟩ := I.found h i k hm
  have := h3.le
  have := F.short
  exact ⟨headB_size h1, by omega, by omega⟩
theorem Sea.isFound (s : Sea w E rs t M S) {h : ByteArray} {i k : Nat} (hh : h.size ≤ 4) (hi : i ≤ 12) (hk : k ≤ 12) : pieceK h i k ∈ S.found.map (fun p => pieceK p.1 p.2.1 p.2.2) ↔ (h, i, k) ∈ S.found := by
  rw [List.mem_map]
  constructor
  · rintro ⟨⟨h', i', k'⟩, hx, e⟩
    have b := s.inv.found_ok s.fits hx
    simp only at e
    obtain ⟨rfl, rfl, rfl⟩ := pieceK_inj (by unfold maxLen; omega) (by omega) (by omega) (by unfold maxLen; omega) (by omega) (by omega) e
    exact hx
  · exact fun hm => ⟨(h, i, k), hm, rfl⟩
end
end Go.Proofs.Ytmhdbjoljonhdaa
