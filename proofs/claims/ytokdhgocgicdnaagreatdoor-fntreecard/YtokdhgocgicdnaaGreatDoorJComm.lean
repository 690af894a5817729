import Derived.Test.YtokdhgocgicdnaaGreatDoorJEar
import Derived.Test.YtokdhgocgicdnaaGreatDoorJTre
import Derived.Conc.LoneSelect
/- The search, as data: looks that are put, heads that are asked for, pieces that are found; and that nothing is left when all looks were followed. No program stands in this text. -/
namespace Go.Proofs.YtokdhgocgicdnaaGreatDoor
open Go.RowKit

structure St where
  known : List Look
  rc : Nat
  nw : Nat
  found : List (ByteArray × Nat × Nat)
  wt : ByteArray → Nat → List Look
def St.none : St := ⟨[], 0, 0, [], fun _ _ => []⟩
def putS (S : St) (l : Look) : St := if l ∈ S.known then S else { S with known := S.known ++ [l] }
def putAll (S : St) (ls : List Look) : St := ls.foldl putS S
theorem putS_in {S : St} {l : Look} (h : l ∈ S.known) : putS S l = S := if_pos h
theorem putS_out {S : St} {l : Look} (h : l ∉ S.known) : putS S l = { S with known := S.known ++ [l] } := if_neg h
theorem putAll_nil (S : St) : putAll S [] = S := rfl
theorem putAll_snoc (S : St) (ls : List Look) (l : Look) : putAll S (ls ++ [l]) = putS (putAll S ls) l := by unfold putAll; rw [List.foldl_append]; rfl
theorem putAll_append (S : St) (a b : List Look) : putAll S (a ++ b) = putAll (putAll S a) b := by unfold putAll; rw [List.foldl_append]
theorem putAll_rec {p : St → Prop} {S : St} (h0 : p S) (h : ∀ S l, p S → p (putS S l)) (ls : List Look) : p (putAll S ls) := by
  unfold putAll
  induction ls generalizing S with
  | nil => exact h0
  | cons a l ih => exact ih (h _ _ h0)
theorem putS_rest (S : St) (l : Look) : (putS S l).rc = S.rc ∧ (putS S l).nw = S.nw ∧ (putS S l).found = S.found ∧ (putS S l).wt = S.wt := by unfold putS; split <;> exact ⟨rfl, rfl, rfl, rfl⟩
theorem putAll_rest (S : St) (ls : List Look) : (putAll S ls).rc = S.rc ∧ (putAll S ls).nw = S.nw ∧ (putAll S ls).found = S.found ∧ (putAll S ls).wt = S.wt :=
  putAll_rec (p := fun S' => S'.rc = S.rc ∧ S'.nw = S.nw ∧ S'.found = S.found ∧ S'.wt = S.wt) ⟨rfl, rfl, rfl, rfl⟩ (fun S' l h => by obtain ⟨a, b, c, d⟩ := putS_rest S' l; rw [a, b, c, d]; exact h) ls
theorem putS_mem {S : St} {l x : Look} : x ∈ (putS S l).known ↔ x ∈ S.known ∨ x = l := by
  unfold putS; split
  · rename_i h; exact ⟨.inl, fun h' => h'.elim id (fun e => e ▸ h)⟩
  · simp
theorem putAll_mem {S : St} {ls : List Look} {x : Look} : x ∈ (putAll S ls).known ↔ x ∈ S.known ∨ x ∈ ls := by
  induction ls generalizing S with
  | nil => simp [putAll]
  | cons a l ih =>
    show x ∈ (putAll (putS S a) l).known ↔ _
    rw [ih, putS_mem, List.mem_cons, or_assoc]
theorem putS_nodup {S : St} (h : S.known.Nodup) (l : Look) : (putS S l).known.Nodup := by
  unfold putS; split
  · exact h
  · rename_i hn
    rw [List.nodup_append]
    exact ⟨h, by simp, fun a ha b hb e => by rw [List.mem_singleton] at hb; subst hb e; exact hn ha⟩
theorem putAll_nodup {S : St} (h : S.known.Nodup) (ls : List Look) : (putAll S ls).known.Nodup := putAll_rec (p := fun S => S.known.Nodup) h (fun _ l h => putS_nodup h l) ls
theorem putS_ext (S : St) (l : Look) : ∃ x, (putS S l).known = S.known ++ x := by
  unfold putS; split
  · exact ⟨[], by simp⟩
  · exact ⟨[l], rfl⟩
theorem putAll_ext (S : St) (ls : List Look) : ∃ x, (putAll S ls).known = S.known ++ x :=
  putAll_rec (p := fun S' => ∃ x, S'.known = S.known ++ x) ⟨[], by simp⟩ (fun S' l ⟨x, h⟩ => by
    obtain ⟨y, hy⟩ := putS_ext S' l
    exact ⟨x ++ y, by rw [hy, h, List.append_assoc]⟩) ls

/-- the looks that begin a head at a place -/
def asksTo (rs : List RuleD) (h : ByteArray) (i k : Nat) : List Look := (List.range k).filterMap fun r => if (ruleAt rs r).head = h then some ⟨r, 0, i, i⟩ else none
theorem asksTo_t {rs : List RuleD} {h : ByteArray} {i k : Nat} (hk : k < rs.length) (e : rs[k].head = h) : asksTo rs h i (k + 1) = asksTo rs h i k ++ [⟨k, 0, i, i⟩] := by
  unfold asksTo; rw [List.range_succ, List.filterMap_append]; simp [ruleAt_eq hk, e]
theorem asksTo_f {rs : List RuleD} {h : ByteArray} {i k : Nat} (hk : k < rs.length) (e : rs[k].head ≠ h) : asksTo rs h i (k + 1) = asksTo rs h i k := by
  unfold asksTo; rw [List.range_succ, List.filterMap_append]; simp [ruleAt_eq hk, e]
def asks (rs : List RuleD) (h : ByteArray) (i : Nat) : List Look := asksTo rs h i rs.length
theorem asks_mem {rs : List RuleD} {h : ByteArray} {i : Nat} {l : Look} : l ∈ asks rs h i ↔ ∃ r, ∃ hr : r < rs.length, rs[r].head = h ∧ l = ⟨r, 0, i, i⟩ := by
  unfold asks asksTo
  rw [List.mem_filterMap]
  constructor
  · rintro ⟨r, hr, e⟩
    rw [List.mem_range] at hr
    rw [ruleAt_eq hr] at e
    split at e
    · rename_i h1; injection e with e; exact ⟨r, hr, h1, e.symm⟩
    · cases e
  · rintro ⟨r, hr, h1, rfl⟩
    exact ⟨r, List.mem_range.2 hr, by rw [ruleAt_eq hr, if_pos h1]⟩
def askS (rs : List RuleD) (S : St) (h : ByteArray) (i : Nat) : St := putAll S (asks rs h i)
/-- those that wait go on -/
def goneOn (S : St) (h : ByteArray) (i k : Nat) : List Look := (S.wt h i).map fun l => l.past k
open Classical in
noncomputable def findS (S : St) (h : ByteArray) (i k : Nat) : St := if (h, i, k) ∈ S.found then S else putAll { S with found := S.found ++ [(h, i, k)] } (goneOn S h i k)
/-- one more waits -/
def joinW (S : St) (l : Look) (h : ByteArray) : St := { S with nw := S.nw + 1, wt := fun h' i' => if h' = h ∧ i' = l.at' then S.wt h l.at' ++ [l] else S.wt h' i' }
open Classical in
/-- behind pieces that were found, those that end ahead of place k -/
noncomputable def behindTo (S : St) (l : Look) (h : ByteArray) (k : Nat) : List Look := (List.range k).filterMap fun e => if l.at' ≤ e ∧ (h, l.at', e) ∈ S.found then some (l.past e) else none
theorem behindTo_t {S : St} {l : Look} {h : ByteArray} {k : Nat} (h1 : l.at' ≤ k) (h2 : (h, l.at', k) ∈ S.found) : behindTo S l h (k + 1) = behindTo S l h k ++ [l.past k] := by
  unfold behindTo; rw [List.range_succ, List.filterMap_append]; simp [h1, h2]
theorem behindTo_f {S : St} {l : Look} {h : ByteArray} {k : Nat} (h2 : (h, l.at', k) ∉ S.found) : behindTo S l h (k + 1) = behindTo S l h k := by
  unfold behindTo; rw [List.range_succ, List.filterMap_append]; simp [h2]
theorem behindTo_nil {S : St} {l : Look} {h : ByteArray} : behindTo S l h l.at' = [] := by
  unfold behindTo
  rw [List.filterMap_eq_nil_iff]
  intro e he
  rw [List.mem_range] at he
  rw [if_neg (by omega)]
theorem behindTo_mem {S : St} {l : Look} {h : ByteArray} {k : Nat} {x : Look} : x ∈ behindTo S l h k ↔ ∃ e, e < k ∧ l.at' ≤ e ∧ (h, l.at', e) ∈ S.found ∧ x = l.past e := by
  unfold behindTo
  rw [List.mem_filterMap]
  constructor
  · rintro ⟨e, he, h1⟩
    split at h1
    · rename_i h2; injection h1 with h1; exact ⟨e, List.mem_range.1 he, h2.1, h2.2, h1.symm⟩
    · cases h1
  · rintro ⟨e, he, h1, h2, rfl⟩
    exact ⟨e, List.mem_range.2 he, by rw [if_pos ⟨h1, h2⟩]⟩
noncomputable def waitS (rs : List RuleD) (t : List ByteArray) (S : St) (l : Look) (h : ByteArray) : St := putAll (askS rs (joinW S l h) h l.at') (behindTo S l h (t.length + 1))
noncomputable def followS (rs : List RuleD) (t : List ByteArray) (S : St) (l : Look) : St :=
  match (ruleAt rs l.rule).body[l.done]? with
  | .none => findS S (ruleAt rs l.rule).head l.fr l.at'
  | some s => if headB s = true then waitS rs t S l s else if t[l.at']? = some s then putS S (l.past (l.at' + 1)) else S
def takeS (S : St) : St := { S with rc := S.rc + 1 }

/-- what holds all the time -/
structure Inv (rs : List RuleD) (t : List ByteArray) (S : St) : Prop where
  sound : ∀ l ∈ S.known, Sound rs t l
  nodup : S.known.Nodup
  rc : S.rc ≤ S.known.length
  nw : S.nw ≤ S.rc
  fl : S.found.length ≤ S.rc
  found : ∀ h i k, (h, i, k) ∈ S.found → headB h = true ∧ k ≤ t.length ∧ Der (· ∈ rs) t [h] i k
  fnd : S.found.Nodup
  wait : ∀ h i, ∀ l ∈ S.wt h i, l ∈ S.known ∧ l.at' = i ∧ headB h = true ∧ (ruleAt rs l.rule).body[l.done]? = some h
section
variable {rs : List RuleD} {t : List ByteArray} {S : St}
theorem Inv.none : Inv rs t St.none := ⟨by simp [St.none], by simp [St.none], Nat.le_refl _, Nat.le_refl _, Nat.le_refl _, by simp [St.none], by simp [St.none], by simp [St.none]⟩
theorem Inv.put (I : Inv rs t S) {l : Look} (hl : Sound rs t l) : Inv rs t (putS S l) := by
  obtain ⟨e1, e2, e3, e4⟩ := putS_rest S l
  refine ⟨fun x hx => ?_, putS_nodup I.nodup l, ?_, by rw [e1, e2]; exact I.nw, by rw [e1, e3]; exact I.fl, by rw [e3]; exact I.found, by rw [e3]; exact I.fnd, by rw [e4]; exact fun h i x hx => ⟨putS_mem.2 (.inl (I.wait h i x hx).1), (I.wait h i x hx).2⟩⟩
  · rcases putS_mem.1 hx with h | rfl
    · exact I.sound x h
    · exact hl
  · obtain ⟨y, hy⟩ := putS_ext S l
    rw [e1, hy, List.length_append]; have := I.rc; omega
theorem Inv.putAll (I : Inv rs t S) {ls : List Look} (hl : ∀ l ∈ ls, Sound rs t l) : Inv rs t (putAll S ls) := by
  induction ls generalizing S with
  | nil => exact I
  | cons a l ih => exact ih (I.put (hl a List.mem_cons_self)) fun x hx => hl x (List.mem_cons_of_mem _ hx)
theorem asks_sound {h : ByteArray} {i : Nat} (hi : i ≤ t.length) : ∀ l ∈ asks rs h i, Sound rs t l := by
  intro l hl
  obtain ⟨r, hr, _, rfl⟩ := asks_mem.1 hl
  exact .new hr hi
theorem Inv.ask (I : Inv rs t S) {h : ByteArray} {i : Nat} (hi : i ≤ t.length) : Inv rs t (askS rs S h i) := I.putAll (asks_sound hi)
theorem Inv.waits (I : Inv rs t S) {h : ByteArray} {i k : Nat} {l : Look} (hl : l ∈ S.wt h i) (d : Der (· ∈ rs) t [h] i k) : Sound rs t (l.past k) := by
  obtain ⟨h1, rfl, _, h3⟩ := I.wait h i l hl
  have s := I.sound l h1
  rw [ruleAt_eq s.rule] at h3
  exact s.head h3 d
theorem Inv.find1 (I : Inv rs t S) {h : ByteArray} {i k : Nat} (hb : headB h = true) (hk : k ≤ t.length) (d : Der (· ∈ rs) t [h] i k) (hn : (h, i, k) ∉ S.found) (hf : S.found.length < S.rc) : Inv rs t { S with found := S.found ++ [(h, i, k)] } :=
  ⟨I.sound, I.nodup, I.rc, I.nw, by rw [List.length_append]; exact hf, fun h' i' k' hm => by
    rcases List.mem_append.1 hm with hm | hm
    · exact I.found h' i' k' hm
    · rw [List.mem_singleton] at hm; cases hm; exact ⟨hb, hk, d⟩, by
    rw [List.nodup_append]
    exact ⟨I.fnd, by simp, fun a ha b hb e => by rw [List.mem_singleton] at hb; subst hb e; exact hn ha⟩, I.wait⟩
theorem Inv.find (I : Inv rs t S) {h : ByteArray} {i k : Nat} (hb : headB h = true) (hk : k ≤ t.length) (d : Der (· ∈ rs) t [h] i k) (hf : S.found.length < S.rc) : Inv rs t (findS S h i k) := by
  unfold findS
  split
  · exact I
  · rename_i hn
    refine (I.find1 hb hk d hn hf).putAll fun x hx => ?_
    obtain ⟨l, hl, rfl⟩ := List.mem_map.1 hx
    exact I.waits hl d
theorem Inv.join (I : Inv rs t S) {l : Look} {h : ByteArray} (hl : l ∈ S.known) (hb : headB h = true) (hd : (ruleAt rs l.rule).body[l.done]? = some h) (hn : S.nw < S.rc) : Inv rs t (joinW S l h) :=
  ⟨I.sound, I.nodup, I.rc, hn, I.fl, I.found, I.fnd, fun h' i' x hx => by
    simp only [joinW] at hx ⊢
    split at hx
    · rename_i e
      obtain ⟨rfl, rfl⟩ := e
      rcases List.mem_append.1 hx with hx | hx
      · exact I.wait _ _ x hx
      · rw [List.mem_singleton] at hx; subst hx; exact ⟨hl, rfl, hb, hd⟩
    · exact I.wait _ _ x hx⟩
theorem Inv.behind (I : Inv rs t S) {l : Look} {h : ByteArray} (hl : l ∈ S.known) (hd : (ruleAt rs l.rule).body[l.done]? = some h) {k : Nat} : ∀ x ∈ behindTo S l h k, Sound rs t x := by
  intro x hx
  obtain ⟨e, _, _, h2, rfl⟩ := behindTo_mem.1 hx
  have s := I.sound l hl
  rw [ruleAt_eq s.rule] at hd
  exact s.head hd (I.found _ _ _ h2).2.2
theorem Inv.waiting (I : Inv rs t S) {l : Look} {h : ByteArray} (hl : l ∈ S.known) (hb : headB h = true) (hd : (ruleAt rs l.rule).body[l.done]? = some h) (hn : S.nw < S.rc) : Inv rs t (waitS rs t S l h) :=
  ((I.join hl hb hd hn).ask (I.sound l hl).fit).putAll (I.behind hl hd)
theorem Inv.take (I : Inv rs t S) (h : S.rc < S.known.length) : Inv rs t (takeS S) := ⟨I.sound, I.nodup, h, Nat.le_succ_of_le I.nw, Nat.le_succ_of_le I.fl, I.found, I.fnd, I.wait⟩
theorem Inv.follow (I : Inv rs t S) (hh : ∀ i (h : i < rs.length), headB rs[i].head = true) {l : Look} (hl : l ∈ S.known) (hn : S.nw < S.rc) (hf : S.found.length < S.rc) : Inv rs t (followS rs t S l) := by
  have s := I.sound l hl
  unfold followS
  split
  · rename_i hd
    rw [ruleAt_eq s.rule] at hd ⊢
    have hd' : l.done = (rs[l.rule]'s.rule).body.length := by
      have := s.done
      have := List.getElem?_eq_none_iff.1 hd
      omega
    exact I.find (hh _ s.rule) s.fit (s.fin hd') hf
  · rename_i x hd
    split
    · rename_i hb
      exact I.waiting hl hb hd hn
    · split
      · rename_i ht
        rw [ruleAt_eq s.rule] at hd
        exact I.put (s.tok hd ht)
      · exact I
end

/-- how far one has come: the first n looks were followed -/
structure Done (rs : List RuleD) (t : List ByteArray) (S : St) (n : Nat) : Prop where
  fin : ∀ l ∈ S.known.take n, ∀ h : l.rule < rs.length, l.done = rs[l.rule].body.length → (rs[l.rule].head, l.fr, l.at') ∈ S.found
  tok : ∀ l ∈ S.known.take n, ∀ h : l.rule < rs.length, ∀ s, rs[l.rule].body[l.done]? = some s → headB s = false → t[l.at']? = some s → l.past (l.at' + 1) ∈ S.known
  ask : ∀ l ∈ S.known.take n, ∀ h : l.rule < rs.length, ∀ s, rs[l.rule].body[l.done]? = some s → headB s = true → ∀ x ∈ asks rs s l.at', x ∈ S.known
  wait : ∀ l ∈ S.known.take n, ∀ h : l.rule < rs.length, ∀ s, rs[l.rule].body[l.done]? = some s → headB s = true → l ∈ S.wt s l.at'
  gone : ∀ h i k, (h, i, k) ∈ S.found → ∀ l ∈ S.wt h i, l.past k ∈ S.known
section
variable {rs : List RuleD} {t : List ByteArray} {S : St} {n : Nat}
theorem Done.none : Done rs t St.none 0 := ⟨by simp, by simp, by simp, by simp, by simp [St.none]⟩
theorem Done.more (D : Done rs t S n) {S' : St} (hx : ∃ x, S'.known = S.known ++ x) (hn : n ≤ S.known.length) (hf : ∀ p ∈ S.found, p ∈ S'.found) (hw : ∀ h i, ∀ l ∈ S.wt h i, l ∈ S'.wt h i) (hg : ∀ h i k, (h, i, k) ∈ S'.found → ∀ l ∈ S'.wt h i, l.past k ∈ S'.known) : Done rs t S' n := by
  obtain ⟨x, hx⟩ := hx
  have ht : S'.known.take n = S.known.take n := by rw [hx, List.take_append_of_le_length hn]
  have hm : ∀ l ∈ S.known, l ∈ S'.known := fun l hl => by rw [hx]; exact List.mem_append_left _ hl
  exact ⟨fun l hl h e => hf _ (D.fin l (ht ▸ hl) h e), fun l hl h s h1 h2 h3 => hm _ (D.tok l (ht ▸ hl) h s h1 h2 h3), fun l hl h s h1 h2 x hx => hm _ (D.ask l (ht ▸ hl) h s h1 h2 x hx),
    fun l hl h s h1 h2 => hw _ _ l (D.wait l (ht ▸ hl) h s h1 h2), hg⟩
theorem Done.putAll (D : Done rs t S n) (hn : n ≤ S.known.length) (ls : List Look) : Done rs t (putAll S ls) n := by
  obtain ⟨_, _, e3, e4⟩ := putAll_rest S ls
  exact D.more (putAll_ext S ls) hn (by rw [e3]; exact fun _ h => h) (by rw [e4]; exact fun _ _ _ h => h) (by rw [e3, e4]; exact fun h i k h1 l h2 => putAll_mem.2 (.inl (D.gone h i k h1 l h2)))
/-- the next look is followed -/
theorem Done.follow (D : Done rs t S n) (I : Inv rs t S) (hn : n < S.known.length) : Done rs t (followS rs t S S.known[n]) (n + 1) := by
  have s := I.sound _ (List.getElem_mem hn)
  -- what is asked of the new state, beside what is known of the old
  have key : ∀ S' : St, Done rs t S' n → (∃ x, S'.known = S.known ++ x) →
      (S.known[n].done = (rs[S.known[n].rule]'s.rule).body.length → ((rs[S.known[n].rule]'s.rule).head, S.known[n].fr, S.known[n].at') ∈ S'.found) →
      (∀ s', (rs[S.known[n].rule]'s.rule).body[S.known[n].done]? = some s' → headB s' = false → t[S.known[n].at']? = some s' → S.known[n].past (S.known[n].at' + 1) ∈ S'.known) →
      (∀ s', (rs[S.known[n].rule]'s.rule).body[S.known[n].done]? = some s' → headB s' = true → (∀ x ∈ asks rs s' S.known[n].at', x ∈ S'.known) ∧ S.known[n] ∈ S'.wt s' S.known[n].at') → Done rs t S' (n + 1) := by
    rintro S' D' ⟨x, hx⟩ h1 h2 h3
    have ht : S'.known.take (n + 1) = S'.known.take n ++ [S.known[n]] := by
      have h0 : n < S'.known.length := by rw [hx, List.length_append]; omega
      rw [List.take_succ_eq_append_getElem h0]
      congr 2
      simp only [hx, List.getElem_append_left hn]
    have mem : ∀ l ∈ S'.known.take (n + 1), l ∈ S'.known.take n ∨ l = S.known[n] := fun l hl => by
      rw [ht] at hl
      rcases List.mem_append.1 hl with h | h
      · exact .inl h
      · exact .inr (List.mem_singleton.1 h)
    refine ⟨fun l hl h e => ?_, fun l hl h s' a b c => ?_, fun l hl h s' a b => ?_, fun l hl h s' a b => ?_, D'.gone⟩
    · rcases mem l hl with hl | rfl
      · exact D'.fin l hl h e
      · exact h1 e
    · rcases mem l hl with hl | rfl
      · exact D'.tok l hl h s' a b c
      · exact h2 s' a b c
    · rcases mem l hl with hl | rfl
      · exact D'.ask l hl h s' a b
      · exact (h3 s' a b).1
    · rcases mem l hl with hl | rfl
      · exact D'.wait l hl h s' a b
      · exact (h3 s' a b).2
  have hd0 := s.done
  generalize hl : S.known[n] = l at *
  unfold followS
  rw [ruleAt_eq s.rule]
  have hn' : n ≤ S.known.length := Nat.le_of_lt hn
  split
  · rename_i hd
    have hd' : l.done = (rs[l.rule]'s.rule).body.length := by have := List.getElem?_eq_none_iff.1 hd; omega
    have hno : ∀ s', (rs[l.rule]'s.rule).body[l.done]? = some s' → False := fun s' h => by rw [hd] at h; cases h
    unfold findS
    split
    · rename_i hf
      exact key S D ⟨[], by simp⟩ (fun _ => hf) (fun s' h => (hno s' h).elim) (fun s' h => (hno s' h).elim)
    · rename_i hf
      have e := putAll_rest { S with found := S.found ++ [((rs[l.rule]'s.rule).head, l.fr, l.at')] } (goneOn S (rs[l.rule]'s.rule).head l.fr l.at')
      refine key _ ?_ (putAll_ext { S with found := S.found ++ [((rs[l.rule]'s.rule).head, l.fr, l.at')] } _) (fun _ => by rw [e.2.2.1]; simp) (fun s' h => (hno s' h).elim) (fun s' h => (hno s' h).elim)
      refine D.more (putAll_ext { S with found := S.found ++ [((rs[l.rule]'s.rule).head, l.fr, l.at')] } _) hn' (by rw [e.2.2.1]; exact fun p hp => List.mem_append_left _ hp) (by rw [e.2.2.2]; exact fun _ _ _ h => h) ?_
      rw [e.2.2.1, e.2.2.2]
      intro h i k hm x hx
      rw [putAll_mem]
      rcases List.mem_append.1 hm with hm | hm
      · exact .inl (D.gone h i k hm x hx)
      · rw [List.mem_singleton] at hm
        cases hm
        exact .inr (List.mem_map.2 ⟨x, hx, rfl⟩)
  · rename_i s' hd
    have hfin : l.done ≠ (rs[l.rule]'s.rule).body.length := by have := (List.getElem?_eq_some_iff.1 hd).1; omega
    split
    · rename_i hb
      -- it waits
      have e1 := putAll_rest (joinW S l s') (asks rs s' l.at')
      have e2 := putAll_rest (askS rs (joinW S l s') s' l.at') (behindTo S l s' (t.length + 1))
      have hx1 := putAll_ext (joinW S l s') (asks rs s' l.at')
      have hx2 := putAll_ext (askS rs (joinW S l s') s' l.at') (behindTo S l s' (t.length + 1))
      have hx : ∃ x, (waitS rs t S l s').known = S.known ++ x := by
        obtain ⟨x, hx1⟩ := hx1
        obtain ⟨y, hx2⟩ := hx2
        exact ⟨x ++ y, by unfold waitS; rw [hx2]; unfold askS; rw [hx1, List.append_assoc]; rfl⟩
      have hf : (waitS rs t S l s').found = S.found := e2.2.2.1.trans e1.2.2.1
      have hw : (waitS rs t S l s').wt = (joinW S l s').wt := e2.2.2.2.trans e1.2.2.2
      refine key _ ?_ hx (fun e => absurd e hfin) (fun s'' h h1 => ?_) (fun s'' h h1 => ?_)
      · refine D.more hx hn' (by rw [hf]; exact fun _ h => h) (fun h i x hm => ?_) (fun h i k hm x hxm => ?_)
        · rw [hw]
          simp only [joinW]
          split
          · rename_i e; obtain ⟨rfl, rfl⟩ := e; exact List.mem_append_left _ hm
          · exact hm
        · rw [hf] at hm
          rw [hw] at hxm
          unfold waitS
          rw [putAll_mem]
          simp only [joinW] at hxm
          have old : ∀ y ∈ S.wt h i, y.past k ∈ (askS rs (joinW S l s') s' l.at').known := fun y hy => by
            unfold askS; rw [putAll_mem]; exact .inl (D.gone h i k hm y hy)
          split at hxm
          · rename_i e
            obtain ⟨rfl, rfl⟩ := e
            rcases List.mem_append.1 hxm with h3 | h3
            · exact .inl (old x h3)
            · rw [List.mem_singleton] at h3
              subst h3
              have hk := I.found _ _ _ hm
              exact .inr (behindTo_mem.2 ⟨k, by omega, hk.2.2.le, hm, rfl⟩)
          · exact .inl (old x hxm)
      · rw [hd] at h; injection h with h; subst h; rw [hb] at h1; cases h1
      · rw [hd] at h; injection h with h; subst h
        refine ⟨fun x hxm => ?_, by rw [hw]; simp [joinW]⟩
        unfold waitS
        rw [putAll_mem]
        unfold askS
        rw [putAll_mem]
        exact .inl (.inr hxm)
    · rename_i hb
      have hb' : headB s' = false := by simpa using hb
      split
      · rename_i ht
        refine key _ (D.putAll hn' [l.past (l.at' + 1)]) (putS_ext _ _) (fun e => absurd e hfin) (fun s'' h _ _ => putS_mem.2 (.inr rfl)) (fun s'' h h1 => ?_)
        rw [hd] at h; injection h with h; subst h; rw [hb'] at h1; cases h1
      · rename_i ht
        refine key _ D ⟨[], by simp⟩ (fun e => absurd e hfin) (fun s'' h _ h3 => ?_) (fun s'' h h1 => ?_)
        · rw [hd] at h; injection h with h; subst h; exact absurd h3 ht
        · rw [hd] at h; injection h with h; subst h; rw [hb'] at h1; cases h1
theorem Done.taken (D : Done rs t S n) : Done rs t (takeS S) n := ⟨D.fin, D.tok, D.ask, D.wait, D.gone⟩
/-- all looks were followed -/
theorem Done.closed (D : Done rs t S S.known.length) : Closed rs t (· ∈ S.known) (fun h i k => (h, i, k) ∈ S.found) := by
  have e : S.known.take S.known.length = S.known := List.take_length
  refine ⟨fun l h hk => D.fin l (by rw [e]; exact hk) h, fun l h s hk => D.tok l (by rw [e]; exact hk) h s, fun l h s hk h1 h2 r hr h3 => D.ask l (by rw [e]; exact hk) h s h1 h2 _ (asks_mem.2 ⟨r, hr, h3, rfl⟩), fun l h s hk h1 h2 k hf => ?_⟩
  exact D.gone _ _ _ hf l (D.wait l (by rw [e]; exact hk) h s h1 h2)
end

/-- from the start on, all looks may be gone on with -/
structure FromS (rs : List RuleD) (t : List ByteArray) (st : ByteArray) (S : St) : Prop where
  ctx : ∀ l ∈ S.known, ∀ h : l.rule < rs.length, Ctx rs t st rs[l.rule].head l.fr
section
variable {rs : List RuleD} {t : List ByteArray} {S : St} {st : ByteArray}
theorem FromS.none : FromS rs t st St.none := ⟨by simp [St.none]⟩
theorem FromS.putAll (F : FromS rs t st S) {ls : List Look} (h : ∀ l ∈ ls, ∀ h : l.rule < rs.length, Ctx rs t st rs[l.rule].head l.fr) : FromS rs t st (putAll S ls) :=
  ⟨fun l hl => (putAll_mem.1 hl).elim (F.ctx l) (h l)⟩
theorem FromS.ask (F : FromS rs t st S) {h : ByteArray} {i : Nat} (c : Ctx rs t st h i) : FromS rs t st (askS rs S h i) :=
  F.putAll fun l hl hr => by
    obtain ⟨r, hr, rfl, rfl⟩ := asks_mem.1 hl
    exact c
theorem FromS.past (F : FromS rs t st S) {l : Look} (hl : l ∈ S.known) (k : Nat) : ∀ h : (l.past k).rule < rs.length, Ctx rs t st rs[(l.past k).rule].head (l.past k).fr := F.ctx l hl
theorem FromS.follow (F : FromS rs t st S) (I : Inv rs t S) {l : Look} (hl : l ∈ S.known) : FromS rs t st (followS rs t S l) := by
  have s := I.sound l hl
  unfold followS
  split
  · unfold findS
    split
    · exact F
    · refine FromS.putAll (S := { S with found := S.found ++ [((ruleAt rs l.rule).head, l.fr, l.at')] }) ⟨F.ctx⟩ fun x hx => ?_
      obtain ⟨y, hy, rfl⟩ := List.mem_map.1 hx
      exact F.past (I.wait _ _ y hy).1 _
  · rename_i s' hd
    rw [ruleAt_eq s.rule] at hd
    split
    · refine (FromS.ask (S := joinW S l s') ⟨F.ctx⟩ (s.ctx (F.ctx l hl s.rule) hd)).putAll fun x hx => ?_
      obtain ⟨e, _, _, _, rfl⟩ := behindTo_mem.1 hx
      exact F.past hl _
    · split
      · exact F.putAll (ls := [l.past (l.at' + 1)]) fun x hx => by rw [List.mem_singleton] at hx; subst hx; exact F.past hl _
      · exact F
theorem FromS.beg (F : FromS rs t st S) (I : Inv rs t S) {l : Look} (hl : l ∈ S.known) : Beg (· ∈ rs) t l.at' st 0 := (I.sound l hl).beg (F.ctx l hl (I.sound l hl).rule)
end
end Go.Proofs.YtokdhgocgicdnaaGreatDoor

/- Code that sends into a channel of its own, or looks whether something lies there: a frame of one goroutine, step by step. No program stands in this text. -/
namespace Go.Proofs.YtokdhgocgicdnaaGreatDoor
open Go.RowKit Go.Conc

/-- as Code.wp, of an ordinary call's frame -/
def NWp (P : Program) (c : Code) (Q : Exit → Act → World → Prop) (a : Act) (w : World) : Prop :=
  ∀ b : Frame, b.kind = .normal → ∀ (k : List Item) (cs : List Frame), ∃ e a' w', Q e a' w' ∧ Arrives P (lone (b.at a (.code c :: k)) cs w) b k cs e a' w'
/-- what is left of a region -/
def Left (P : Program) (ops : Array Oper) (Q : Exit → Act → World → Prop) (l : List Nat) (a : Act) (w : World) : Prop :=
  ∀ b : Frame, b.kind = .normal → ∀ (k : List Item) (cs : List Frame), ∃ e a' w', Q e a' w' ∧ Arrives P (lone (b.at a (.inRegion ops l :: k)) cs w) b k cs e a' w'
section
variable {P : Program} {Q : Exit → Act → World → Prop} {a : Act} {w : World}
theorem NWp.of_wp {c : Code} (h : c.wp P Q a w) : NWp P c Q a w := fun b _ => h b
theorem NWp.more {c : Code} {Q' : Exit → Act → World → Prop} (h : NWp P c Q a w) (hq : ∀ e a w, Q e a w → Q' e a w) : NWp P c Q' a w := fun b hb k cs => by
  obtain ⟨e, a', w', q, r⟩ := h b hb k cs
  exact ⟨e, a', w', hq _ _ _ q, r⟩
theorem NWp.seq {x y : Code} (h : NWp P x (Exit.then (NWp P y Q) Q) a w) : NWp P (.seq x y) Q a w := by
  intro b hb k cs
  obtain ⟨e, a', w', q, r⟩ := h b hb (.code y :: k) cs
  have hs := Steps.one (step_seq (P := P) (b := b) (a := a) (k := k) (cs := cs) (w := w) (x := x) (y := y))
  cases e with
  | normal =>
    obtain ⟨e2, a2, w2, q2, r2⟩ := q b hb k cs
    exact ⟨e2, a2, w2, q2, Arrives.of_steps (hs.trans r) r2⟩
  | exit id => exact ⟨_, a', w', q, Arrives.of_steps hs (r.pass rfl fun _ _ => .inl (by simp))⟩
  | goto l => exact ⟨_, a', w', q, Arrives.of_steps hs (r.pass rfl fun _ _ => .inl (by simp))⟩
  | ret => exact ⟨_, a', w', q, Arrives.of_steps hs (r.pass rfl fun _ _ => .inl (by simp))⟩
  | panic ch => exact ⟨_, a', w', q, Arrives.of_steps hs (r.pass rfl fun _ _ => .inl (by simp))⟩
  | outgrown => exact ⟨_, a', w', q, Arrives.of_steps hs (r.pass rfl fun _ _ => .inl (by simp))⟩
theorem NWp.cond {c : Operand} {x y : Code} {t : Bool} (hc : a.eval c = .bool t) (h : NWp P (if t then x else y) Q a w) : NWp P (.cond c x y) Q a w := fun b hb k cs => by
  obtain ⟨e, a', w', q, r⟩ := h b hb k cs
  exact ⟨e, a', w', q, Arrives.of_steps (Steps.one (step_cond hc)) r⟩
theorem NWp.block {id : Nat} {c : Code} (h : NWp P c (Exit.inBlock id Q) a w) : NWp P (.block id c) Q a w := by
  intro b hb k cs
  obtain ⟨e, a', w', q, r⟩ := h b hb (.inBlock id :: k) cs
  have hs := Steps.one (step_block (P := P) (b := b) (a := a) (k := k) (cs := cs) (w := w) (id := id) (c := c))
  cases e with
  | normal => exact ⟨.normal, a', w', q, hs.trans (Steps.trans r (.one step_inBlock))⟩
  | exit j =>
    by_cases e : j = id
    · subst e
      have q' : Q .normal a' w' := by simpa [Exit.inBlock] using q
      exact ⟨.normal, a', w', q', hs.trans (r k (by simp [exitTo]))⟩
    · have q' : Q (.exit j) a' w' := by simpa [Exit.inBlock, e] using q
      exact ⟨.exit j, a', w', q', fun k' hk => hs.trans (r k' (by simp [exitTo, Ne.symm e]; exact hk))⟩
  | goto l => exact ⟨.goto l, a', w', q, fun k' hk => hs.trans (r k' (by simp [gotoIn, hk]))⟩
  | ret => exact ⟨.ret, a', w', q, Arrives.of_steps (e := .ret) (b := b) (k := k) hs r⟩
  | panic ch => exact ⟨.panic ch, a', w', q, Arrives.of_steps (e := .panic ch) (b := b) (k := k) hs r⟩
  | outgrown => exact ⟨.outgrown, a', w', q, Arrives.of_steps (e := .outgrown) (b := b) (k := k) (cs := cs) hs r⟩
/-- so it is with fewer rounds -/
def Lower (I : Nat → Act → World → Prop) (n : Nat) (a : Act) (w : World) : Prop := ∃ m, m < n ∧ I m a w
/-- a loop, as often as n rounds at most -/
theorem NWp.loop {c : Code} (I : Nat → Act → World → Prop) (n : Nat) (h0 : I n a w) (round : ∀ n a w, I n a w → NWp P c (Exit.then (Lower I n) Q) a w) : NWp P (.loop c) Q a w := by
  intro b hb k cs
  have key : ∀ n a w, I n a w → ∃ e a' w', Q e a' w' ∧ Arrives P (lone (b.at a (.code c :: .inLoop c :: k)) cs w) b k cs e a' w' := by
    intro n
    induction n using Nat.strongRecOn with
    | _ n ih =>
      intro a w hI
      obtain ⟨e, a', w', q, r⟩ := round n a w hI b hb (.inLoop c :: k) cs
      cases e with
      | normal =>
        obtain ⟨m, hm, hI2⟩ := q
        obtain ⟨e2, a2, w2, q2, r2⟩ := ih m hm a' w' hI2
        exact ⟨e2, a2, w2, q2, Arrives.of_steps (Steps.trans r (.one step_inLoop)) r2⟩
      | exit id => exact ⟨_, a', w', q, r.pass rfl fun _ _ => .inl (by simp)⟩
      | goto l => exact ⟨_, a', w', q, r.pass rfl fun _ _ => .inl (by simp)⟩
      | ret => exact ⟨_, a', w', q, r.pass rfl fun _ _ => .inl (by simp)⟩
      | panic ch => exact ⟨_, a', w', q, r.pass rfl fun _ _ => .inl (by simp)⟩
      | outgrown => exact ⟨_, a', w', q, r.pass rfl fun _ _ => .inl (by simp)⟩
  obtain ⟨e, a', w', q, r⟩ := key n a w h0
  exact ⟨e, a', w', q, Arrives.of_steps (.one step_loop) r⟩
theorem NWp.calls {f : FuncId} {fn : Func} {c : Code} {args : Array Value} {R : Ending → World → Prop} (hf : P.funcs[f]? = some fn) (hc : fn.body = some c)
    (h : NWp P c (bodyPost P fn R) { tmps := args ++ Array.replicate (fn.ntmps - args.size) undef, defers := [] } w) : Calls P f args w R := by
  intro cs
  have he : Frame.enter P f args .normal = ({ (default : Frame) with fn := f, kind := .normal } : Frame).at { tmps := args ++ Array.replicate (fn.ntmps - args.size) undef, defers := [] } [.code c] := by
    simp [Frame.enter, Frame.at, hf, hc]
  obtain ⟨e, a', w', q, r⟩ := h { (default : Frame) with fn := f, kind := .normal } rfl [] cs
  rw [← he] at r
  cases e with
  | normal =>
    obtain ⟨q1, v, q2, q3⟩ := q
    exact ⟨.returned v, w', _, q3, Steps.trans r (.one step_end), rfl, rfl, q1, rfl, fn, hf, q2⟩
  | ret =>
    obtain ⟨q1, v, q2, q3⟩ := q
    obtain ⟨todo, r⟩ := r
    exact ⟨.returned v, w', _, q3, r, rfl, rfl, q1, rfl, fn, hf, q2⟩
  | panic chain =>
    obtain ⟨q1, q2⟩ := q
    obtain ⟨todo, r⟩ := r
    exact ⟨.panicked chain, w', _, q2, r, rfl, rfl, q1, fn, hf⟩
  | exit id => exact q.elim
  | goto l => exact q.elim
  | outgrown => exact ⟨.outgrown, w', { (default : Frame) with fn := f, kind := .normal }, q, r.resolve_left (by simp), rfl, trivial⟩

variable {ops : Array Oper} {i : Nat} {rest : List Nat} {o : Oper}
theorem NWp.region {id : Nat} (h : Left P ops Q (List.range ops.size) a w) : NWp P (.region id ops false) Q a w := fun b hb k cs => by
  obtain ⟨e, a', w', q, r⟩ := h b hb k cs
  exact ⟨e, a', w', q, Arrives.of_steps (.one step_region) r⟩
theorem Left.nil (h : Q .normal a w) : Left P ops Q [] a w := fun _ _ _ _ => ⟨.normal, a, w, h, .one step_region_end⟩
theorem Left.val (ho : ops[i]? = some o) (hw : Region.wanted o (yielded ops a.tmps) = true) {v : Value} {w' : World} (hr : (execOp a.eval o).run P w = .ok (.value v) w') (h : Left P ops Q rest (a.put o.dst v) w') : Left P ops Q (i :: rest) a w := by
  intro b hb k cs
  obtain ⟨e, a2, w2, q, r⟩ := h b hb k cs
  refine ⟨e, a2, w2, q, Arrives.of_steps (.one (step_lone_go ?_)) r⟩
  have hfin := Frame.finish_at b a ops i rest k v
  rw [ho] at hfin
  rw [stepG_op ho hw, show b.at (a.put o.dst v) (.inRegion ops rest :: k) = (b.at a (.inRegion ops (i :: rest) :: k)).finish v from hfin.symm]
  simp [stepG.apply, hr]
theorem Left.val_k (ho : ops[i]? = some o) (hw : Region.wanted o (yielded ops a.tmps) = true) (h : ∀ K : Result Next → Prop, (∀ v w', Left P ops Q rest (a.put o.dst v) w' → K (.ok (.value v) w')) → K ((execOp a.eval o).run P w)) : Left P ops Q (i :: rest) a w := by
  obtain ⟨v, w', h1, h2⟩ := h (fun r => ∃ v w', Left P ops Q rest (a.put o.dst v) w' ∧ r = .ok (.value v) w') fun v w' h => ⟨v, w', h, rfl⟩
  exact Left.val ho hw h2 h1
/-- a send into a channel that has room -/
theorem Left.send {c cap s r : Nat} {buf : Array Value} {v z : Value} {tm : Bool} (ho : ops[i]? = some o) (hw : Region.wanted o (yielded ops a.tmps) = true) (hr : (execOp a.eval o).run P w = .ok (.comm #[scase c v z] true .send) w)
    (hc : w.heap[c]? = some (.chan cap buf false s r tm)) (hroom : buf.size < cap) (h : Left P ops Q rest (a.put o.dst undef) (w.setChan c cap (buf.push v) false (s + 1) r tm)) : Left P ops Q (i :: rest) a w := by
  intro b hb k cs
  obtain ⟨e, a2, w2, q, rr⟩ := h b hb k cs
  refine ⟨e, a2, w2, q, Arrives.of_steps (.one ?_) rr⟩
  rw [lone_eq_solo, step_lone_send_room (stepG_comm ho hw (by rw [hb]; decide) hr) hc hroom, Frame.finish_at, ho]
  rfl
/-- something lies there -/
theorem Left.take {c cap s r : Nat} {buf : Array Value} {z : Value} {tm cl : Bool} (ho : ops[i]? = some o) (hw : Region.wanted o (yielded ops a.tmps) = true) (hr : (execOp a.eval o).run P w = .ok (.comm #[rcase c z] false .select) w)
    (hc : w.heap[c]? = some (.chan cap buf cl s r tm)) (hsome : 0 < buf.size) (h : Left P ops Q rest (a.put o.dst (.tuple #[goInt 0, .bool true, buf.getD 0 undef])) (w.setChan c cap (buf.extract 1 buf.size) cl s (r + 1) tm)) : Left P ops Q (i :: rest) a w := by
  intro b hb k cs
  obtain ⟨e, a2, w2, q, rr⟩ := h b hb k cs
  refine ⟨e, a2, w2, q, Arrives.of_steps (.one ?_) rr⟩
  rw [lone_eq_solo, step_lone_select_recv_buf (stepG_comm ho hw (by rw [hb]; decide) hr) hc hsome, Frame.finish_at, ho]
  rfl
/-- nothing lies there -/
theorem Left.none {c cap s r : Nat} {z : Value} {tm : Bool} (ho : ops[i]? = some o) (hw : Region.wanted o (yielded ops a.tmps) = true) (hr : (execOp a.eval o).run P w = .ok (.comm #[rcase c z] false .select) w)
    (hc : w.heap[c]? = some (.chan cap #[] false s r tm)) (h : Left P ops Q rest (a.put o.dst (.tuple #[goInt (-1), .bool false, z])) w) : Left P ops Q (i :: rest) a w := by
  intro b hb k cs
  obtain ⟨e, a2, w2, q, rr⟩ := h b hb k cs
  refine ⟨e, a2, w2, q, Arrives.of_steps (.one ?_) rr⟩
  rw [lone_eq_solo, step_lone_select_default (stepG_comm ho hw (by rw [hb]; decide) hr) hc, Frame.finish_at, ho]
  rfl
end
end Go.Proofs.YtokdhgocgicdnaaGreatDoor
