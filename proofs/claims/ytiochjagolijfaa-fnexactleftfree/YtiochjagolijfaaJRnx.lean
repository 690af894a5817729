import Derived.Test.YtiochjagolijfaaJHmp
import Derived.Test.YtiochjagolijfaaJShr
import Derived.Test.YtiochjagolijfaaJTxt
import Derived.Deep.LoopGhost
/- What a head leads to by the first of a Body, as data: when none comes round; how Mades that lead nowhere are left out again and again, and how all that a head leads to is come to. No program stands in this text. -/
namespace Go.Proofs.Ytiochjagolijfaa
open Go.RowKit

/-- the head that a Made leads to -/
def nxt (m : MadeD) : Option ByteArray := match m.body with
  | [] => none
  | s :: _ => if tokB s = true then none else some s
theorem nxt_at {m : MadeD} (h : 0 < m.body.length) : nxt m = if tokB m.body[0] = true then none else some m.body[0] := by
  obtain ⟨hd, body, tm⟩ := m
  cases body with
  | nil => simp at h
  | cons s l => rfl
theorem nxt_nil {m : MadeD} (h : m.body.length = 0) : nxt m = none := by
  unfold nxt
  rw [List.eq_nil_of_length_eq_zero h]
def Lead (ms : List MadeD) (a b : ByteArray) : Prop := ∃ m ∈ ms, m.head = a ∧ nxt m = some b
inductive LdP (ms : List MadeD) : ByteArray → ByteArray → Prop
  | one (a b : ByteArray) (h : Lead ms a b) : LdP ms a b
  | more (a b c : ByteArray) (h : LdP ms a b) (k : Lead ms b c) : LdP ms a c
theorem LdP.first {ms : List MadeD} {a c : ByteArray} (h : LdP ms a c) : ∃ b, Lead ms a b ∧ (b = c ∨ LdP ms b c) := by
  induction h with
  | one b h => exact ⟨b, h, .inl rfl⟩
  | more b c h k ih =>
    obtain ⟨x, h1, h2⟩ := ih
    refine ⟨x, h1, .inr ?_⟩
    rcases h2 with rfl | h2
    · exact .one _ _ k
    · exact .more _ _ _ h2 k
def FreeL (ms : List MadeD) : Prop := ∀ h, ¬ LdP ms h h
/-- a Made is left out -/
def goneB (ls : List MadeD) (m : MadeD) : Bool := match nxt m with
  | none => true
  | some s => decide ((ofHead ls s).length = 0)
def nextL (ls : List MadeD) : List MadeD := ls.filter fun m => !goneB ls m
def OnC (ms : List MadeD) (m : MadeD) : Prop := ∃ s, nxt m = some s ∧ (s = m.head ∨ LdP ms s m.head)
structure LfI (ms ls : List MadeD) : Prop where
  sub : ∀ m ∈ ls, m ∈ ms
  kept : ∀ m ∈ ms, OnC ms m → m ∈ ls
theorem LfI.start (ms : List MadeD) : LfI ms ms := ⟨fun _ h => h, fun _ h _ => h⟩
theorem mem_ofHead {ls : List MadeD} {m : MadeD} {s : ByteArray} : m ∈ ofHead ls s ↔ m ∈ ls ∧ m.head = s := by
  unfold ofHead
  rw [List.mem_filter, decide_eq_true_iff]
theorem LfI.next {ms ls : List MadeD} (a : LfI ms ls) : LfI ms (nextL ls) where
  sub := fun m h => a.sub m (List.mem_filter.1 h).1
  kept := fun m hm hc => by
    refine List.mem_filter.2 ⟨a.kept m hm hc, ?_⟩
    obtain ⟨s, h1, h2⟩ := hc
    have key : ∃ m', m' ∈ ofHead ls s := by
      rcases h2 with rfl | h2
      · exact ⟨m, mem_ofHead.2 ⟨a.kept m hm ⟨_, h1, .inl rfl⟩, rfl⟩⟩
      · obtain ⟨b, ⟨m', hm', e1, e2⟩, h3⟩ := h2.first
        refine ⟨m', mem_ofHead.2 ⟨a.kept m' hm' ⟨b, e2, .inr ?_⟩, e1⟩⟩
        rw [e1]
        rcases h3 with rfl | h3
        · exact .one _ _ ⟨m, hm, rfl, h1⟩
        · exact .more _ _ _ h3 ⟨m, hm, rfl, h1⟩
    obtain ⟨m', hm'⟩ := key
    have := List.length_pos_of_mem hm'
    unfold goneB
    rw [h1]
    simp only [Bool.not_eq_true', decide_eq_false_iff_not]
    omega
theorem LfI.free {ms : List MadeD} (a : LfI ms []) : FreeL ms := fun h hh => by
  obtain ⟨b, ⟨m, hm, e1, e2⟩, h2⟩ := hh.first
  have := a.kept m hm ⟨b, e2, by rw [e1]; exact h2⟩
  simp at this
theorem nextL_len (ls : List MadeD) : (nextL ls).length ≤ ls.length := List.length_filter_le _ _
theorem nextL_same {ls : List MadeD} (h : (nextL ls).length = ls.length) : ∀ m ∈ ls, goneB ls m = false := by
  intro m hm
  have := List.length_filter_eq_length_iff.1 h m hm
  simpa using this
theorem LfI.round {ms ls : List MadeD} (a : LfI ms ls) (h : (nextL ls).length = ls.length) (hn : ls ≠ []) : ¬ FreeL ms := by
  intro hf
  have hk := nextL_same h
  have chain : ∀ n, ∃ (c : List ByteArray) (x : ByteArray), c.length = n ∧ (∀ y ∈ c, y ∈ ls.map (·.head)) ∧ x ∈ ls.map (·.head) ∧ c.Nodup ∧ ∀ y ∈ c, LdP ms y x := by
    intro n
    induction n with
    | zero =>
      obtain ⟨m, hm⟩ := List.exists_mem_of_ne_nil ls hn
      exact ⟨[], m.head, rfl, by simp, List.mem_map.2 ⟨m, hm, rfl⟩, List.nodup_nil, by simp⟩
    | succ n ih =>
      obtain ⟨c, x, h1, h2, h3, h4, h5⟩ := ih
      obtain ⟨m, hm, rfl⟩ := List.mem_map.1 h3
      have hg := hk m hm
      unfold goneB at hg
      cases hx : nxt m with
      | none => rw [hx] at hg; cases hg
      | some s =>
        rw [hx] at hg
        simp only [decide_eq_false_iff_not] at hg
        obtain ⟨m', hm'⟩ := List.exists_mem_of_length_pos (Nat.pos_of_ne_zero hg)
        have hld : Lead ms m.head s := ⟨m, a.sub m hm, rfl, hx⟩
        refine ⟨m.head :: c, s, by simp [h1], fun y hy => ?_, List.mem_map.2 ⟨m', (mem_ofHead.1 hm').1, (mem_ofHead.1 hm').2⟩, List.nodup_cons.2 ⟨fun hc => hf _ (h5 _ hc), h4⟩, fun y hy => ?_⟩
        · rcases List.mem_cons.1 hy with rfl | hy
          · exact h3
          · exact h2 y hy
        · rcases List.mem_cons.1 hy with rfl | hy
          · exact .one _ _ hld
          · exact .more _ _ _ (h5 y hy) hld
  obtain ⟨c, x, h1, h2, h3, h4, h5⟩ := chain (ls.length + 1)
  have := nodup_le c (ls.map (·.head)) h4 h2
  rw [List.length_map] at this
  omega

/-- what is come to from a head, of which the Mades of the first k were gone through, and the first n of the next one's -/
structure BfI (ms : List MadeD) (h : ByteArray) (t : List ByteArray) (k n : Nat) : Prop where
  first : t[0]? = some h
  nodup : t.Nodup
  sound : ∀ x ∈ t, x = h ∨ LdP ms h x
  sub : ∀ x ∈ t, x = h ∨ ∃ m ∈ ms, nxt m = some x
  done : ∀ i, i < k → ∀ x, t[i]? = some x → ∀ b, Lead ms x b → b ≠ h ∧ b ∈ t
  part : ∀ j (hj : j < ms.length), j < n → ∀ b, t[k]? = some ms[j].head → nxt ms[j] = some b → b ≠ h ∧ b ∈ t
section
variable {ms : List MadeD} {h : ByteArray} {t : List ByteArray} {k n : Nat}
theorem BfI.start (ms : List MadeD) (h : ByteArray) : BfI ms h [h] 0 0 where
  first := rfl
  nodup := by simp
  sound := fun x hx => by rw [List.mem_singleton] at hx; exact .inl hx
  sub := fun x hx => by rw [List.mem_singleton] at hx; exact .inl hx
  done := fun i hi => by omega
  part := fun j _ hj => by omega
theorem BfI.zero (a : BfI ms h t k n) : BfI ms h t k 0 := ⟨a.first, a.nodup, a.sound, a.sub, a.done, fun j _ hj => by omega⟩
theorem BfI.skip (a : BfI ms h t k n) (hn : n < ms.length) (hs : ∀ b, t[k]? = some ms[n].head → nxt ms[n] = some b → b ≠ h ∧ b ∈ t) : BfI ms h t k (n + 1) where
  first := a.first
  nodup := a.nodup
  sound := a.sound
  sub := a.sub
  done := a.done
  part := fun j hj hjn b h1 h2 => by
    by_cases e : j = n
    · subst e; exact hs b h1 h2
    · exact a.part j hj (by omega) b h1 h2
theorem BfI.push (a : BfI ms h t k n) (hk : k < t.length) (hn : n < ms.length) {b : ByteArray} (h1 : t[k]? = some ms[n].head) (h2 : nxt ms[n] = some b) (h3 : b ≠ h) (h4 : inB t b = false) : BfI ms h (t ++ [b]) k (n + 1) where
  first := by rw [List.getElem?_append_left (by omega)]; exact a.first
  nodup := by
    rw [List.nodup_append]
    refine ⟨a.nodup, by simp, fun x hx y hy e => ?_⟩
    rw [List.mem_singleton] at hy
    subst e hy
    rw [(inB_iff _ _).2 hx] at h4
    cases h4
  sound := fun x hx => by
    rw [List.mem_append, List.mem_singleton] at hx
    rcases hx with hx | rfl
    · exact a.sound x hx
    · have hl : Lead ms ms[n].head x := ⟨_, List.getElem_mem hn, rfl, h2⟩
      rcases a.sound _ (List.mem_of_getElem? h1) with e | e
      · rw [e] at hl; exact .inr (.one _ _ hl)
      · exact .inr (.more _ _ _ e hl)
  sub := fun x hx => by
    rw [List.mem_append, List.mem_singleton] at hx
    rcases hx with hx | rfl
    · exact a.sub x hx
    · exact .inr ⟨_, List.getElem_mem hn, h2⟩
  done := fun i hi x hx c hc => by
    rw [List.getElem?_append_left (by omega)] at hx
    have := a.done i hi x hx c hc
    exact ⟨this.1, List.mem_append_left _ this.2⟩
  part := fun j hj hjn c e1 e2 => by
    rw [List.getElem?_append_left (by omega)] at e1
    by_cases e : j = n
    · subst e
      rw [h2] at e2
      injection e2 with e2
      subst e2
      exact ⟨h3, by simp⟩
    · have := a.part j hj (by omega) c e1 e2
      exact ⟨this.1, List.mem_append_left _ this.2⟩
theorem BfI.turn (a : BfI ms h t k ms.length) : BfI ms h t (k + 1) 0 where
  first := a.first
  nodup := a.nodup
  sound := a.sound
  sub := a.sub
  done := fun i hi x hx b hb => by
    by_cases e : i = k
    · subst e
      obtain ⟨m, hm, e1, e2⟩ := hb
      obtain ⟨j, hj, rfl⟩ := List.getElem_of_mem hm
      exact a.part j hj hj b (by rw [hx, e1]) e2
    · exact a.done i (by omega) x hx b hb
  part := fun j _ hj => by omega
theorem BfI.found (a : BfI ms h t k n) (hn : n < ms.length) (h1 : t[k]? = some ms[n].head) (h2 : nxt ms[n] = some h) : ¬ FreeL ms := fun hf => by
  have hl : Lead ms ms[n].head h := ⟨_, List.getElem_mem hn, rfl, h2⟩
  rcases a.sound _ (List.mem_of_getElem? h1) with e | e
  · rw [e] at hl; exact hf _ (.one _ _ hl)
  · exact hf _ (.more _ _ _ e hl)
theorem BfI.none (a : BfI ms h t k n) (hk : t.length ≤ k) : ¬ LdP ms h h := by
  have key : ∀ x y, LdP ms x y → x = h → y ≠ h ∧ y ∈ t := by
    intro x y hxy
    induction hxy with
    | one b hl =>
      intro e
      subst e
      have h0 := a.first
      have hl0 : 0 < t.length := by
        obtain ⟨h1, _⟩ := List.getElem?_eq_some_iff.1 h0
        exact h1
      exact a.done 0 (by omega) _ h0 b hl
    | more b c hab hl ih =>
      intro e
      obtain ⟨_, h2⟩ := ih e
      obtain ⟨i, hi, rfl⟩ := List.getElem_of_mem h2
      exact a.done i (by omega) _ (List.getElem?_eq_getElem hi) c hl
  exact fun hh => (key h h hh rfl).1 rfl
theorem BfI.len (a : BfI ms h t k n) : t.length ≤ ms.length + 1 := by
  have := nodup_le t (h :: ms.filterMap nxt) a.nodup fun x hx => by
    rcases a.sub x hx with rfl | ⟨m, hm, e⟩
    · exact List.mem_cons_self
    · exact List.mem_cons_of_mem _ (List.mem_filterMap.2 ⟨m, hm, e⟩)
  have h2 : (ms.filterMap nxt).length ≤ ms.length := List.length_filterMap_le _ _
  simp only [List.length_cons] at this
  omega
end
end Go.Proofs.Ytiochjagolijfaa

/- A term is laid anew in memory of the call's own: the walk of (*room).renew. -/
namespace Go.Proofs.Ytiochjagolijfaa
open Go.RowKit

theorem Try.infoTermR : (Try.prog.info? 47).map (fun i => (i.zero, i.size, i.bytes)) = some (some (.agg #[.int .i64 0, .int .i64 0, .slice none 0 0]), 3, 40) := by kernel_rfl
theorem Try.infoPtrR : (Try.prog.info? 135).map (fun i => (i.zero, i.size, i.bytes)) = some (some (.pointer none), 1, 8) := by kernel_rfl
def ptrs (P : List Pe) : List Value := P.map fun e => .pointer (some ⟨e.b, e.o, none⟩)
theorem ptrs_len (P : List Pe) : (ptrs P).length = P.length := by simp [ptrs]
theorem ptrs_app (P Q : List Pe) : ptrs (P ++ Q) = ptrs P ++ ptrs Q := by simp [ptrs]
def costP (P : List Pe) : Nat := (P.map fun e => sizeM e.t).sum
theorem costP_app (P Q : List Pe) : costP (P ++ Q) = costP P + costP Q := by simp [costP, List.sum_append]
theorem costP_len (P : List Pe) : P.length ≤ costP P := by
  induction P with
  | nil => simp [costP]
  | cons e P ih =>
    have := sizeM_eq e.t
    simp only [costP, List.map_cons, List.sum_cons, List.length_cons] at ih ⊢
    omega
theorem costP_kids (g : Nat) (ts : List TermD) (U : Nat → Value) : costP (kidsP g ts U) = sizeMs ts := by
  have h : ∀ k, k ≤ ts.length → costP ((kidsP g ts U).take k) = sizeMs (ts.take k) := fun k hk => by
    induction k with
    | zero => simp [costP, sizeMs]
    | succ k ih =>
      have hl : k < (kidsP g ts U).length := by rw [kidsP_len]; omega
      rw [List.take_succ_eq_append_getElem hl, costP_app, ih (by omega), sizeMs_take ts k (by omega), kidsP_at]
      simp [costP]
  have := h ts.length (Nat.le_refl _)
  rw [List.take_length] at this
  rw [← this, ← kidsP_len g ts U, List.take_length]
/-- what stands on the way -/
structure RnI (w0 wr : World) (lo hi s0 : Nat) (P : List Pe) (G : World → Prop) : Prop where
  bel : Below s0 w0 wr
  each : ∀ i (h : i < P.length), PeAt wr lo hi s0 P[i]
  apart : ∀ i (h : i < P.length), P[i].b ≠ s0 + 1
  dist : ∀ i j (h1 : i < P.length) (h2 : j < P.length), i ≠ j → P[i].b = P[j].b → P[i].o ≠ P[j].o
  res : Row wr (s0 + 1) 47 #[.int .i64 0, .int .i64 0, .slice none 0 0]
  wand : Wand s0 wr P G
  room : costP P ≤ 2097152
theorem PeAt.on {w w' : World} {lo hi s0 : Nat} {e : Pe} (h : PeAt w lo hi s0 e) (hhi : hi ≤ s0) (hb : Keeps 0 s0 w w') (hr : ∀ p cur, s0 ≤ p → Row w p 47 cur → Row w' p 47 cur) : PeAt w' lo hi s0 e := by
  obtain ⟨cur, a, b⟩ := h.row
  exact ⟨h.ge, ⟨cur, hr _ _ h.ge a, b⟩, h.three, h.kids.keep (hb.mono (Nat.zero_le _) hhi), h.top⟩
/-- nothing but blocks of another type are written -/
theorem RnI.on {w0 wr wr' : World} {lo hi s0 : Nat} {P : List Pe} {G : World → Prop} (h : RnI w0 wr lo hi s0 P G) (hhi : hi ≤ s0) (hb : Below s0 wr wr') (hr : ∀ p cur, s0 ≤ p → Row wr p 47 cur → Row wr' p 47 cur) : RnI w0 wr' lo hi s0 P G where
  bel := h.bel.trans hb
  each := fun i hi' => (h.each i hi').on hhi (Keeps.below hb (Nat.le_refl _)) hr
  apart := h.apart
  dist := h.dist
  res := hr _ _ (by omega) h.res
  wand := h.wand.on hb.size hr
  room := h.room
/-- one place is done -/
theorem RnI.turn {w0 wr wr2 : World} {lo hi s0 g : Nat} {R : List Pe} {e : Pe} {G : World → Prop} {S : Value} {U : Nat → Value} (h : RnI w0 wr lo hi s0 (R ++ [e]) G) (hhi : hi ≤ s0) (hs0 : s0 ≤ wr.heap.size)
    (hb : Below s0 wr wr2) (hrow : ∀ p cur, s0 ≤ p → Row wr p 47 cur → Row wr2 p 47 (if p = e.b then cur.setIfInBounds (e.o + 2) S else cur))
    (hS : (e.t.kids = [] ∧ S = .slice none 0 0) ∨ (0 < e.t.kids.length ∧ wr.heap.size ≤ g ∧ ∃ (c : Nat) (gcur : Array Value), S = .slice (some ⟨g, 0, none⟩) e.t.kids.length c ∧ e.t.kids.length ≤ c ∧ c ≤ maxLen ∧ Row wr2 g 47 gcur ∧ e.t.kids.length * 3 ≤ gcur.size ∧
      ∀ i (h : i < e.t.kids.length), TopM e.t.kids[i] ∧ gcur[i * 3]? = some (.int .i64 e.t.kids[i].kind) ∧ gcur[i * 3 + 1]? = some (.int .i64 e.t.kids[i].num) ∧ gcur[i * 3 + 2]? = some (U i) ∧ KM true wr lo hi (U i) e.t.kids[i].kids)) :
    RnI w0 wr2 lo hi s0 (R ++ kidsP g e.t.kids U) G := by
  have hlen : (R ++ kidsP g e.t.kids U).length = R.length + e.t.kids.length := by rw [List.length_append, kidsP_len]
  have hlen1 : (R ++ [e]).length = R.length + 1 := by simp
  have fR : ∀ i (hi : i < R.length) (h' : i < (R ++ kidsP g e.t.kids U).length), (R ++ kidsP g e.t.kids U)[i] = R[i] := fun i hi h' => app_left _ _ i hi h'
  have fK : ∀ i (hi : i < e.t.kids.length) (h' : R.length + i < (R ++ kidsP g e.t.kids U).length), (R ++ kidsP g e.t.kids U)[R.length + i] = ⟨g, i * 3, e.t.kids[i], U i⟩ := fun i hi h' => by
    rw [app_right _ _ i (by rw [kidsP_len]; exact hi) h', kidsP_at]
  have split : ∀ i, i < R.length + e.t.kids.length → i < R.length ∨ ∃ k, k < e.t.kids.length ∧ i = R.length + k := fun i hi => by
    rcases Nat.lt_or_ge i R.length with h1 | h1
    · exact .inl h1
    · exact .inr ⟨i - R.length, by omega, by omega⟩
  have f1 : ∀ i (hi : i < R.length) (h' : i < (R ++ [e]).length), (R ++ [e])[i] = R[i] := fun i hi h' => app_left _ _ i hi h'
  have f2 : ∀ (h' : R.length < (R ++ [e]).length), (R ++ [e])[R.length] = e := fun h' => by simp
  have eachR : ∀ i (hi' : i < R.length), PeAt wr lo hi s0 R[i] := fun i hi' => by have := h.each i (by omega); rw [f1 i hi'] at this; exact this
  have eachE : PeAt wr lo hi s0 e := by have := h.each R.length (by omega); rw [f2] at this; exact this
  have dist1 : ∀ i (hi' : i < R.length), R[i].b = e.b → R[i].o ≠ e.o := fun i hi' hh => by
    have := h.dist i R.length (by omega) (by omega) (by omega)
    rw [f1 i hi', f2] at this
    exact this hh
  have gE : ∀ i, i < e.t.kids.length → wr.heap.size ≤ g ∧ g < wr2.heap.size := fun i hi' => by
    rcases hS with ⟨h1, _⟩ | ⟨_, h1, c, gcur, _, _, _, h2, _⟩
    · rw [h1] at hi'; simp at hi'
    · exact ⟨h1, h2.lt⟩
  have keepK : Keeps 0 s0 wr wr2 := Keeps.below hb (Nat.le_refl _)
  refine ⟨h.bel.trans hb, fun i hi' => ?_, fun i hi' => ?_, fun i j hi' hj' hij hbb => ?_, ?_, ?_, ?_⟩
  · rcases split i (by omega) with q | ⟨k, q, rfl⟩
    · rw [fR i q]
      obtain ⟨cur, a1, a2, a3, a4, a5⟩ := (eachR i q).row
      obtain ⟨m1, e1⟩ := (eachR i q).three
      obtain ⟨m2, e2⟩ := eachE.three
      refine ⟨(eachR i q).ge, ⟨_, hrow _ _ (eachR i q).ge a1, ?_⟩, (eachR i q).three, (eachR i q).kids.keep (keepK.mono (Nat.zero_le _) hhi), (eachR i q).top⟩
      split
      · rename_i hb1
        have := dist1 i q hb1
        refine ⟨by simp; exact a2, ?_, ?_, ?_⟩
        · rw [Array.getElem?_setIfInBounds_ne (by omega)]; exact a3
        · rw [Array.getElem?_setIfInBounds_ne (by omega)]; exact a4
        · rw [Array.getElem?_setIfInBounds_ne (by omega)]; exact a5
      · exact ⟨a2, a3, a4, a5⟩
    · rw [fK k q]
      rcases hS with ⟨h1, _⟩ | ⟨_, h1, c, gcur, _, _, _, h2, h3, h4⟩
      · rw [h1] at q; simp at q
      · obtain ⟨b0, b1, b2, b3, b4⟩ := h4 k q
        exact ⟨by show s0 ≤ g; omega, ⟨gcur, h2, by show k * 3 + 2 < _; omega, b1, b2, b3⟩, ⟨k, rfl⟩, b4.keep (keepK.mono (Nat.zero_le _) hhi), b0⟩
  · rcases split i (by omega) with q | ⟨k, q, rfl⟩
    · rw [fR i q]
      have := h.apart i (by omega)
      rw [f1 i q] at this
      exact this
    · rw [fK k q]
      have := (gE k q).1
      have := h.res.lt
      show g ≠ s0 + 1
      omega
  · rcases split i (by omega) with q | ⟨k, q, rfl⟩ <;> rcases split j (by omega) with r | ⟨m, r, rfl⟩
    · rw [fR i q, fR j r] at *
      have := h.dist i j (by omega) (by omega) hij
      rw [f1 i q, f1 j r] at this
      exact this hbb
    · rw [fR i q, fK m r] at *
      have := (eachR i q).lt
      have := (gE m r).1
      simp only at hbb
      omega
    · rw [fK k q, fR j r] at *
      have := (eachR j r).lt
      have := (gE k q).1
      simp only at hbb
      omega
    · rw [fK k q, fK m r] at *
      show k * 3 ≠ m * 3
      omega
  · have := hrow (s0 + 1) _ (by omega) h.res
    rw [if_neg (fun hh => h.apart R.length (by omega) (by rw [f2]; exact hh.symm))] at this
    exact this
  · refine h.wand.turn hs0 hb.size eachE.ge hrow (by obtain ⟨cur, a1, a2, _⟩ := eachE.row; exact ⟨cur, a1, a2⟩) (fun i hi' => (eachR i hi').lt) dist1 ?_
    rcases hS with h1 | ⟨h1, h2, c, gcur, h3, h4, h5, h6, h7, h8⟩
    · exact .inl h1
    · exact .inr ⟨h1, h2, c, gcur, h3, h4, h5, h6, h7, fun i hi' => ⟨(h8 i hi').1, (h8 i hi').2.1, (h8 i hi').2.2.1⟩⟩
  · have := h.room
    rw [costP_app] at this ⊢
    rw [costP_kids]
    have e1 : costP [e] = sizeM e.t := by simp [costP]
    have e2 := sizeM_eq e.t
    omega
/-- at the start there is one place, in the call's own box -/
theorem RnI.start {w : World} {lo hi s0 : Nat} {t : TermD} {x : Value} (hr : Row w s0 47 #[.int .i64 t.kind, .int .i64 t.num, x]) (hr1 : Row w (s0 + 1) 47 #[.int .i64 0, .int .i64 0, .slice none 0 0]) (hk : KM true w lo hi x t.kids) (ht : TopM t) (hn : sizeM t ≤ 2097152) :
    RnI w w lo hi s0 [⟨s0, 0, t, x⟩] (fun w' => ∃ x' L E, w'.cell? ⟨s0, 0, none⟩ = some (.int .i64 t.kind) ∧ w'.cell? ⟨s0, 1, none⟩ = some (.int .i64 t.num) ∧ w'.cell? ⟨s0, 2, none⟩ = some x' ∧ OI w' L E x' t.kids ∧ w.heap.size ≤ L ∧ E ≤ w'.heap.size) where
  bel := Below.refl _ _
  each := fun i hi => by
    obtain rfl : i = 0 := by simpa using hi
    exact ⟨Nat.le_refl _, ⟨_, hr, by simp, rfl, rfl, rfl⟩, ⟨0, rfl⟩, hk, ht⟩
  apart := fun i hi => by
    obtain rfl : i = 0 := by simpa using hi
    show s0 ≠ s0 + 1
    omega
  dist := fun i j hi hj hij => by simp at hi hj; omega
  res := hr1
  wand := fun w' X L E f => by
    obtain ⟨cur', r1, r2, r3⟩ := f.rows s0 _ (Nat.le_refl _) hr
    have o := f.oi 0 (by simp)
    refine ⟨X 0, L 0, E 0, ?_, ?_, f.here 0 (by simp), o.1, o.2.1, o.2.2.2⟩
    · rw [r1.cell, r3 0 (fun i hi _ => by obtain rfl : i = 0 := by simpa using hi
                                          show (0 : Nat) + 2 ≠ 0; omega)]; rfl
    · rw [r1.cell, r3 1 (fun i hi _ => by obtain rfl : i = 0 := by simpa using hi
                                          show (0 : Nat) + 2 ≠ 1; omega)]; rfl
  room := by simp [costP]; omega
end Go.Proofs.Ytiochjagolijfaa
