import Derived.Test.YtlgedjpolmlciaaJIadm
import Derived.Deep.AppendLies
/- Counting a tree with a stack of open lists, as data: what holds from round to round. -/
namespace Go.Proofs.Ytlgedjpolmlciaa
open Go.RowKit

/-- a list that is being counted, and how many of it are done -/
structure EntM where
  v : Value
  ts : List TermD
  dn : Nat
/-- the Kids of the i-th tree of v are u -/
def KidVM (w : World) (v : Value) (i : Nat) (u : Value) : Prop := ∃ b off n c, v = .slice (some ⟨b, off, none⟩) n c ∧ w.cell? ⟨b, off + i * 3 + 2, none⟩ = some u
/-- each open list hangs from the one below it -/
def ChM (w : World) (root : List TermD) : Value → List TermD → List EntM → Prop
  | _, ts, [] => ts = root
  | v, ts, e :: r => 0 < ts.length ∧ (∃ h : e.dn < e.ts.length, e.ts[e.dn].kids = ts) ∧ KidVM w e.v e.dn v ∧ ChM w root e.v e.ts r
theorem ChM.lt {w : World} {root : List TermD} : ∀ {r : List EntM} {v : Value} {ts : List TermD}, ChM w root v ts r → (∀ e ∈ r, sizeMs ts < sizeMs e.ts) ∧ sizeMs ts ≤ sizeMs root
  | [], _, _, h => ⟨by simp, by rw [show _ = root from h]; exact Nat.le_refl _⟩
  | e :: r, v, ts, h => by
    obtain ⟨h0, ⟨h1, h2⟩, h3, h4⟩ := h
    have a := ChM.lt h4
    have b := sizeMs_get e.ts e.dn h1
    have c := sizeM_eq e.ts[e.dn]
    rw [h2] at c
    refine ⟨fun x hx => ?_, by omega⟩
    rcases List.mem_cons.1 hx with rfl | hx
    · omega
    · have := a.1 x hx; omega
theorem ChM.depth {w : World} {root : List TermD} : ∀ {r : List EntM} {v : Value} {ts : List TermD}, ChM w root v ts r → r.length + sizeMs ts ≤ sizeMs root
  | [], _, _, h => by rw [show _ = root from h]; simp
  | e :: r, v, ts, h => by
    obtain ⟨h0, ⟨h1, h2⟩, h3, h4⟩ := h
    have a := ChM.depth h4
    have b := sizeMs_get e.ts e.dn h1
    have c := sizeM_eq e.ts[e.dn]
    rw [h2] at c
    simp only [List.length_cons]
    omega
theorem sizeMs_dropM (ts : List TermD) (k : Nat) (h : k < ts.length) : sizeMs (ts.drop k) = 1 + sizeMs ts[k].kids + sizeMs (ts.drop (k + 1)) := by
  rw [List.drop_eq_getElem_cons h]
  simp only [sizeMs, sizeM_eq]
structure SzIM (w : World) (lo hi : Nat) (root : List TermD) (top : EntM) (r : List EntM) (M : List (Place × Int)) (rd : Bool) : Prop where
  kd : ∀ e ∈ top :: r, KM true w lo hi e.v e.ts ∧ e.dn ≤ e.ts.length
  ch : ChM w root top.v top.ts r
  mok : ∀ p x, lk M p = some x → (∃ c ts, KM true w lo hi (.slice (some p.1) p.2 c) ts ∧ x = sizeMs ts) ∨ (∃ e ∈ top :: r, ∃ c, e.v = .slice (some p.1) p.2 c)
  mfree : ∀ x ∈ M, plOk w x.1 ∧ x.1.1.block < hi
  rdy : rd = true → top.dn < top.ts.length ∧ ∃ p c, KidVM w top.v top.dn (.slice (some p.1) p.2 c) ∧ (lk M p).isSome = true
  small : sizeMs root ≤ 2097152
def costUM : List EntM → Nat
  | [] => 0
  | e :: r => 3 * sizeMs (e.ts.drop (e.dn + 1)) + 2 + costUM r
def costM (top : EntM) (r : List EntM) (rd : Bool) : Nat := costUM r + (if rd then 3 * sizeMs (top.ts.drop (top.dn + 1)) + 2 else 3 * sizeMs (top.ts.drop top.dn) + 1)
theorem cost_addM (top : EntM) (r : List EntM) (rd : Bool) (h : top.dn < top.ts.length) : costM { top with dn := top.dn + 1 } r false < costM top r rd := by
  have := sizeMs_dropM top.ts top.dn h
  unfold costM
  cases rd <;> simp <;> omega
theorem cost_pushM (top : EntM) (r : List EntM) (u : Value) (h : top.dn < top.ts.length) : costM ⟨u, top.ts[top.dn].kids, 0⟩ (top :: r) false < costM top r false := by
  have := sizeMs_dropM top.ts top.dn h
  simp [costM, costUM]
  omega
theorem cost_popM (top e : EntM) (r : List EntM) (h : top.dn = top.ts.length) : costM e r true < costM top (e :: r) false := by
  simp [costM, costUM, h, sizeMs]
  omega

section
variable {w : World} {lo hi : Nat} {root : List TermD} {top : EntM} {r : List EntM} {M : List (Place × Int)} {rd : Bool}
theorem SzIM.start {v : Value} (h : KM true w lo hi v root) (hs : sizeMs root ≤ 2097152) : SzIM w lo hi root ⟨v, root, 0⟩ [] [] false where
  kd := fun e he => by
    simp at he; subst he
    exact ⟨h, Nat.zero_le _⟩
  ch := rfl
  mok := fun p x h => by simp [lk] at h
  mfree := by simp
  rdy := fun h => by cases h
  small := hs
theorem SzIM.le (h : SzIM w lo hi root top r M rd) : sizeMs top.ts ≤ 2097152 := by have := h.ch.lt.2; have := h.small; omega
theorem SzIM.add (h : SzIM w lo hi root top r M rd) (hl : top.dn < top.ts.length) : SzIM w lo hi root { top with dn := top.dn + 1 } r M false where
  kd := fun e he => by
    rcases List.mem_cons.1 he with rfl | he
    · exact ⟨(h.kd top List.mem_cons_self).1, hl⟩
    · exact h.kd e (List.mem_cons_of_mem _ he)
  ch := h.ch
  mok := fun p x hx => by
    rcases h.mok p x hx with h1 | ⟨e, he, c, hc⟩
    · exact .inl h1
    · rcases List.mem_cons.1 he with rfl | he
      · exact .inr ⟨_, List.mem_cons_self, c, hc⟩
      · exact .inr ⟨e, List.mem_cons_of_mem _ he, c, hc⟩
  mfree := h.mfree
  rdy := fun h => by cases h
  small := h.small
/-- what is known of a list that is met with is its size -/
theorem SzIM.known (h : SzIM w lo hi root top r M rd) (hl : top.dn < top.ts.length) {p : Place} {c : Nat} {x : Int} (hk : KM true w lo hi (.slice (some p.1) p.2 c) top.ts[top.dn].kids) (hx : lk M p = some x) : x = sizeMs top.ts[top.dn].kids := by
  rcases h.mok p x hx with ⟨c', ts, h1, h2⟩ | ⟨e, he, c', hc⟩
  · rw [h1.same rfl hk]; exact h2
  · have he2 := (h.kd e he).1
    rw [hc] at he2
    have e1 := he2.same rfl hk
    have a := sizeMs_get top.ts top.dn hl
    have b := sizeM_eq top.ts[top.dn]
    rw [e1] at b
    rcases List.mem_cons.1 he with rfl | he
    · omega
    · have := h.ch.lt.1 e he; omega
theorem SzIM.push (h : SzIM w lo hi root top r M false) (hl : top.dn < top.ts.length) {p : Place} {c : Nat} (hk : KM true w lo hi (.slice (some p.1) p.2 c) top.ts[top.dn].kids) (hkv : KidVM w top.v top.dn (.slice (some p.1) p.2 c)) (hp : plOk w p) (hb : p.1.block < hi)
    (hn : 0 < top.ts[top.dn].kids.length) : SzIM w lo hi root ⟨.slice (some p.1) p.2 c, top.ts[top.dn].kids, 0⟩ (top :: r) (up M p endl) false where
  kd := fun e he => by
    rcases List.mem_cons.1 he with rfl | he
    · exact ⟨hk, Nat.zero_le _⟩
    · exact h.kd e he
  ch := ⟨hn, ⟨hl, rfl⟩, hkv, h.ch⟩
  mok := fun q x hx => by
    by_cases e : q = p
    · subst e
      exact .inr ⟨_, List.mem_cons_self, c, rfl⟩
    · rw [lk_up_other _ _ e] at hx
      rcases h.mok q x hx with h1 | ⟨e, he, c, hc⟩
      · exact .inl h1
      · exact .inr ⟨e, List.mem_cons_of_mem _ he, c, hc⟩
  mfree := fun x hx => by
    rcases mem_up hx with e | hx
    · rw [e]; exact ⟨hp, hb⟩
    · exact h.mfree x hx
  rdy := fun h => by cases h
  small := h.small
theorem SzIM.pop {e : EntM} (h : SzIM w lo hi root top (e :: r) M rd) {p : Place} {c : Nat} (hv : top.v = .slice (some p.1) p.2 c) (hp : plOk w p) (hb : p.1.block < hi) : SzIM w lo hi root e r (up M p (sizeMs top.ts : Int)) true where
  kd := fun x hx => h.kd x (List.mem_cons_of_mem _ hx)
  ch := h.ch.2.2.2
  mok := fun q x hx => by
    by_cases e' : q = p
    · subst e'
      rw [lk_up_same] at hx
      injection hx with hx
      exact .inl ⟨c, top.ts, by rw [← hv]; exact (h.kd top List.mem_cons_self).1, hx.symm⟩
    · rw [lk_up_other _ _ e'] at hx
      rcases h.mok q x hx with h1 | ⟨a, ha, c', hc⟩
      · exact .inl h1
      · rcases List.mem_cons.1 ha with rfl | ha
        · rw [hv] at hc
          injection hc with h1 h2 h3
          injection h1 with h1
          exact absurd (Prod.ext h1.symm h2.symm) e'
        · exact .inr ⟨a, ha, c', hc⟩
  mfree := fun x hx => by
    rcases mem_up hx with e | hx
    · rw [e]; exact ⟨hp, hb⟩
    · exact h.mfree x hx
  rdy := fun _ => by
    obtain ⟨_, ⟨h1, _⟩, h3, _⟩ := h.ch
    rw [hv] at h3
    exact ⟨h1, p, c, h3, by rw [lk_up_same]; rfl⟩
  small := h.small
theorem SzIM.ready (h : SzIM w lo hi root top r M true) {u : Value} (hk : KidVM w top.v top.dn u) : ∃ p c, u = .slice (some p.1) p.2 c ∧ (lk M p).isSome = true := by
  obtain ⟨_, p, c, ⟨b, off, n, c1, e1, e2⟩, h3⟩ := h.rdy rfl
  obtain ⟨b', off', n', c1', e1', e2'⟩ := hk
  rw [e1] at e1'
  injection e1' with e1' _ _
  injection e1' with e1'
  injection e1' with eb eo
  subst eb eo
  rw [e2] at e2'
  injection e2' with e2'
  exact ⟨p, c, e2'.symm, h3⟩
end

/-- the stack in memory -/
def flatEM (L : List EntM) : List Value := L.flatMap fun e => [e.v, .int .i64 (e.dn : Int), .int .i64 (sizeMs (e.ts.take e.dn) : Int)]
theorem flatE_snocM (L : List EntM) (e : EntM) : flatEM (L ++ [e]) = flatEM L ++ [e.v, .int .i64 (e.dn : Int), .int .i64 (sizeMs (e.ts.take e.dn) : Int)] := by simp [flatEM]
theorem flatE_lenM (L : List EntM) : (flatEM L).length = L.length * 3 := by
  induction L with
  | nil => rfl
  | cons x l ih => simp only [flatEM, List.flatMap_cons, List.length_append, List.length_cons, List.length_nil] at ih ⊢; omega
end Go.Proofs.Ytlgedjpolmlciaa

/- Lists of terms to be held against each other: the stack of them in memory; what two terms have of their own. -/
namespace Go.Proofs.Ytlgedjpolmlciaa
open Go.RowKit

def ownTM (t : TermD) : Int × Int := (t.kind, t.num)
def OwnsEqM (x y : List TermD) : Prop := x.length = y.length ∧ ∀ i (h : i < x.length) (h' : i < y.length), ownTM x[i] = ownTM y[i]
theorem ownsEq_ofM {x y : List TermD} (h : x = y) : OwnsEqM x y := by subst h; exact ⟨rfl, fun _ _ _ => rfl⟩
theorem ext_ownM (a b : TermD) (h : ownTM a = ownTM b) (k : a.kids = b.kids) : a = b := by
  unfold ownTM at h
  injection h with h1 h2
  exact TermD.ext_of h1 h2 k
theorem kids_lessM (x : List TermD) (i : Nat) (h : i < x.length) : sizeMs x[i].kids < sizeMs x := by
  have a := sizeMs_get x i h
  have b := sizeM_eq x[i]
  omega
def costQM (L : List (Pr2 TermD)) : Nat := (L.map fun p => sizeMs p.a + 1).sum
theorem costQ_snocM (L : List (Pr2 TermD)) (p : Pr2 TermD) : costQM (L ++ [p]) = costQM L + (sizeMs p.a + 1) := by simp [costQM]
theorem costQ_lenM (L : List (Pr2 TermD)) : L.length ≤ costQM L := by
  induction L with
  | nil => simp
  | cons p L ih => simp [costQM] at ih ⊢; omega
/-- the stack in memory -/
def flatQM (L : List (Pr2 TermD)) : List Value := L.flatMap fun p => [p.va, p.vb]
theorem flatQ_snocM (L : List (Pr2 TermD)) (p : Pr2 TermD) : flatQM (L ++ [p]) = flatQM L ++ [p.va, p.vb] := by simp [flatQM]
theorem flatQ_lenM (L : List (Pr2 TermD)) : (flatQM L).length = L.length * 2 := by
  induction L with
  | nil => rfl
  | cons x l ih => simp only [flatQM, List.flatMap_cons, List.length_append, List.length_cons, List.length_nil] at ih ⊢; omega
def StqM (w : World) (base : Nat) (v : Value) (L : List (Pr2 TermD)) : Prop := w.ownsRow base 84 2 v L.length (flatQM L)
theorem StqM.keep {w w' : World} {base : Nat} {v : Value} {L : List (Pr2 TermD)} (h : StqM w base v L) (k : ∀ g, v.ownBlock = some g → w'.heap[g]? = w.heap[g]?) : StqM w' base v L := by
  refine ⟨h.1, ?_⟩
  rcases h.2 with a | ⟨g, cap, cur, rfl, hb, hh, rest⟩
  · exact .inl a
  · exact .inr ⟨g, cap, cur, rfl, hb, (k g rfl).trans hh, rest⟩
theorem StqM.block {w : World} {base : Nat} {v : Value} {L : List (Pr2 TermD)} (h : StqM w base v L) : ∀ g, v.ownBlock = some g → base ≤ g ∧ g < w.heap.size := fun g hg => World.ownsRow.lt h g hg
theorem StqM.form {w : World} {base : Nat} {v : Value} {L : List (Pr2 TermD)} (h : StqM w base v L) : ∃ A cap, v = .slice A L.length cap ∧ L.length ≤ cap ∧ cap ≤ maxLen := by
  rcases h.2 with ⟨rfl, h0⟩ | ⟨g, cap, cur, rfl, hb, hh, h1, h2, _⟩
  · exact ⟨none, 0, by rw [h0], by omega, by unfold maxLen; omega⟩
  · exact ⟨_, cap, rfl, h1, h2⟩
theorem StqM.parts {w : World} {base : Nat} {v : Value} {L : List (Pr2 TermD)} {p : Pr2 TermD} (h : StqM w base v (L ++ [p])) :
    ∃ g cap, v = .slice (some ⟨g, 0, none⟩) (L.length + 1) cap ∧ base ≤ g ∧ g < w.heap.size ∧ L.length + 1 ≤ cap ∧ cap ≤ maxLen ∧
      w.cell? ⟨g, L.length * 2, none⟩ = some p.va ∧ w.cell? ⟨g, L.length * 2 + 1, none⟩ = some p.vb ∧ StqM w base (.slice (some ⟨g, 0, none⟩) L.length cap) L := by
  have hl : (L ++ [p]).length = L.length + 1 := by simp
  unfold StqM at h
  rw [flatQ_snocM, hl] at h
  have hf := flatQ_lenM L
  obtain ⟨h1, h2⟩ := h
  rcases h2 with ⟨_, h0⟩ | ⟨g, cap, cur, rfl, hb, hh, hc, hm, hs, ht⟩
  · omega
  have hr : Row w g 84 cur := hh
  have cell : ∀ j, j < (L.length + 1) * 2 → cur[j]? = (flatQM L ++ [p.va, p.vb])[j]? := fun j hj => by
    rw [← ht, List.getElem?_take_of_lt hj, Array.getElem?_toList]
  refine ⟨g, cap, rfl, hb, hr.lt, hc, hm, ?_, ?_, ?_⟩
  · rw [hr.cell, cell _ (by omega), List.getElem?_append_right (by omega), hf]; simp
  · rw [hr.cell, cell _ (by omega), List.getElem?_append_right (by omega), hf]; simp [show L.length * 2 + 1 - L.length * 2 = 1 by omega]
  · refine ⟨hf, .inr ⟨g, cap, cur, rfl, hb, hh, by omega, hm, hs, ?_⟩⟩
    have := congrArg (List.take (L.length * 2)) ht
    rw [List.take_take, Nat.min_eq_left (by omega), List.take_append_of_le_length (by omega)] at this
    rw [this]
    exact List.take_of_length_le (by omega)
theorem StqM.made (w : World) (base : Nat) (p : Pr2 TermD) (hb : base ≤ w.heap.size) : StqM (w.alloc (.cells #[p.va, p.vb] 84)) base (.slice (some ⟨w.heap.size, 0, none⟩) 1 1) [p] := by
  refine ⟨by simp [flatQM], .inr ⟨w.heap.size, 1, _, rfl, hb, heap_alloc_new w _, by simp, by unfold maxLen; omega, rfl, ?_⟩⟩
  simp [flatQM]
theorem Try.infoTwoUM : (Try.prog.info? 84).map (fun i => (i.zero, i.size, i.bytes)) = some (some (.agg #[.slice none 0 0, .slice none 0 0]), 2, 48) := by kernel_rfl
theorem twoU_oneM (A B : Option Addr) (n c m d : Nat) : ∀ u ∈ [Value.slice A n c, .slice B m d], u.oneCell' = true := by
  intro u hu
  simp only [List.mem_cons, List.not_mem_nil, or_false] at hu
  rcases hu with rfl | rfl <;> rfl
theorem twoU_newM (w : World) (a b : Value) : ∀ j u, [a, b][j]? = some u → (w.alloc (.cells #[a, b] 84)).cell? ((⟨w.heap.size, 0, none⟩ : Addr).add j) = some u :=
  World.news_of_block (cs := #[a, b]) (t := 84) (fr := (0, 0)) (heap_alloc_new _ _)
end Go.Proofs.Ytlgedjpolmlciaa
