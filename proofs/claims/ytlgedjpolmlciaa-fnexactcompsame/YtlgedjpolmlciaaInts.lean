/- Lists of whole numbers: what they read as, the call's own ones, and what a law asks of them: eqInt64S, markInt64S, heldInt64S. -/
import Derived.Test.YtlgedjpolmlciaaMarkc
import Derived.Test.YtlgedjpolmlciaaJTmq
import Derived.Deep.AppendLies
namespace Go.Proofs.Ytlgedjpolmlciaa
open Go.RowKit

/-- a list of whole numbers, in blocks from lo on ahead of hi -/
def IntsAt (w : World) (lo hi : Nat) (v : Value) (l : List Int) : Prop :=
  ∃ A c, v = .slice A l.length c ∧ l.length ≤ c ∧ c ≤ maxLen ∧
    (0 < l.length → ∃ b off, A = some ⟨b, off, none⟩ ∧ lo ≤ b ∧ b < hi ∧ ∀ i (h : i < l.length), w.cell? ⟨b, off + i, none⟩ = some (.int .i64 l[i]))
theorem IntsAt.keep {w w' : World} {lo hi : Nat} {v : Value} {l : List Int} (h : IntsAt w lo hi v l) (k : Keeps lo hi w w') : IntsAt w' lo hi v l := by
  obtain ⟨A, c, h1, h2, h3, h5⟩ := h
  refine ⟨A, c, h1, h2, h3, fun hp => ?_⟩
  obtain ⟨b, off, e, hl, hh, hc⟩ := h5 hp
  exact ⟨b, off, e, hl, hh, fun i hi => (k.cell (p := ⟨b, off + i, none⟩) hl hh).trans (hc i hi)⟩
theorem IntsAt.below {w w' : World} {lo hi : Nat} {v : Value} {l : List Int} (h : IntsAt w lo hi v l) {B : Nat} (b : Below B w w') (hB : hi ≤ B) : IntsAt w' lo hi v l := h.keep (Keeps.below b hB)
theorem IntsAt.more {w : World} {lo hi lo' hi' : Nat} {v : Value} {l : List Int} (h : IntsAt w lo hi v l) (h1 : lo' ≤ lo) (h2 : hi ≤ hi') : IntsAt w lo' hi' v l := by
  obtain ⟨A, c, a1, a2, a3, a5⟩ := h
  refine ⟨A, c, a1, a2, a3, fun hp => ?_⟩
  obtain ⟨b, off, e, hl, hh, hc⟩ := a5 hp
  exact ⟨b, off, e, by omega, by omega, hc⟩
/-- the whole numbers of a list stand in a block of its own -/
def OwnI (w : World) (g : Nat) (v : Value) (l : List Int) : Prop :=
  ∃ A c, v = .slice A l.length c ∧ l.length ≤ c ∧ c ≤ maxLen ∧
    (0 < l.length → ∃ off cur, A = some ⟨g, off, none⟩ ∧ Row w g 2 cur ∧ ∀ i (h : i < l.length), cur[off + i]? = some (.int .i64 l[i]))
theorem OwnI.keep {w w' : World} {g : Nat} {v : Value} {l : List Int} (h : OwnI w g v l) (e : l ≠ [] → w'.heap[g]? = w.heap[g]?) : OwnI w' g v l := by
  obtain ⟨A, c, h1, h2, h3, h5⟩ := h
  refine ⟨A, c, h1, h2, h3, fun hp => ?_⟩
  obtain ⟨off, cur, ha, hr, hc⟩ := h5 hp
  exact ⟨off, cur, ha, hr.same (e (by intro h0; subst h0; simp at hp)), hc⟩
theorem OwnI.strs {w : World} {g lo hi : Nat} {v : Value} {l : List Int} (h : OwnI w g v l) (hg : l ≠ [] → lo ≤ g ∧ g < hi) : IntsAt w lo hi v l := by
  obtain ⟨A, c, h1, h2, h3, h5⟩ := h
  refine ⟨A, c, h1, h2, h3, fun hp => ?_⟩
  obtain ⟨off, cur, ha, hr, hc⟩ := h5 hp
  obtain ⟨g1, g2⟩ := hg (by intro h0; subst h0; simp at hp)
  exact ⟨g, off, ha, g1, g2, fun i hi => by rw [hr.cell]; exact hc i hi⟩
theorem OwnI.nil (w : World) (g : Nat) : OwnI w g (.slice none 0 0) [] := ⟨none, 0, rfl, Nat.le_refl _, by unfold maxLen; omega, fun h => by simp at h⟩
theorem OwnI.pick {w : World} {g : Nat} {v : Value} {l : List Int} (h : OwnI w g v l) : ∃ g', OwnI w g' v l ∧ (l ≠ [] → g' = g) ∧ (l = [] → w.heap.size ≤ g') := by
  by_cases e : l = []
  · subst e
    obtain ⟨A, c, h1, h2, h3, h5⟩ := h
    exact ⟨w.heap.size, ⟨A, c, h1, h2, h3, fun hp => by simp at hp⟩, fun hn => absurd rfl hn, fun _ => Nat.le_refl _⟩
  · exact ⟨g, h, fun _ => rfl, fun h0 => absurd h0 e⟩
/-- a call hands back such a list, in memory of its own -/
def MadeI (w : World) (l : List Int) (e : Ending) (w' : World) : Prop := ∃ u g, e = .returned u ∧ OwnI w' g u l ∧ (l ≠ [] → w.heap.size ≤ g ∧ g < w'.heap.size) ∧ Below w.heap.size w w'
/-- whole numbers in a row of the call's own -/
def Its (w : World) (base : Nat) (v : Value) (l : List Int) : Prop := w.ownsRow base 2 1 v l.length (l.map (Value.int .i64))
theorem Its.nil (w : World) (base : Nat) : Its w base (.slice none 0 0) [] := World.ownsRow_nil _ _ _ _
theorem Its.lit0 (w : World) {base : Nat} (hb : base ≤ w.heap.size) : Its (w.alloc (.cells #[] 2)) base (.slice (some ⟨w.heap.size, 0, none⟩) 0 0) [] := World.ownsRow_lit w #[] 0 hb (by unfold maxLen; omega) rfl
theorem Its.one {w : World} {base : Nat} {v : Value} {l : List Int} (x : Int) (h : w.ownsRow base 2 1 v (l.length + 1) (l.map (Value.int .i64) ++ [.int .i64 x])) : Its w base v (l ++ [x]) := by
  unfold Its
  rw [List.length_append, List.map_append]
  exact h
theorem Its.form {w : World} {base : Nat} {v : Value} {l : List Int} (h : Its w base v l) : ∃ B d, v = .slice B l.length d := by
  rcases h.2 with ⟨rfl, h0⟩ | ⟨g, cap, cur, rfl, _⟩
  · exact ⟨none, 0, by rw [h0]⟩
  · exact ⟨_, _, rfl⟩
theorem Its.below {w w' : World} {base : Nat} {v : Value} {l : List Int} (h : Its w base v l) (k : Below w.heap.size w w') : Its w' base v l := by
  refine ⟨h.1, ?_⟩
  rcases h.2 with a | ⟨g, cap, cur, rfl, hb, hh, r⟩
  · exact .inl a
  · have hr : Row w g 2 cur := hh
    exact .inr ⟨g, cap, cur, rfl, hb, (k.block g hr.lt).trans hh, r⟩
theorem Its.own {w : World} {base : Nat} {v : Value} {l : List Int} (h : Its w base v l) : ∃ g, OwnI w g v l ∧ (l ≠ [] → base ≤ g ∧ g < w.heap.size) := by
  rcases h.2 with ⟨rfl, h0⟩ | ⟨g, cap, cur, rfl, hb, hh, hc, hm, hs, ht⟩
  · obtain rfl : l = [] := List.eq_nil_of_length_eq_zero h0
    exact ⟨0, OwnI.nil w 0, fun hn => absurd rfl hn⟩
  · have hr : Row w g 2 cur := hh
    refine ⟨g, ⟨_, cap, rfl, hc, hm, fun _ => ⟨0, cur, rfl, hr, fun i hi => ?_⟩⟩, fun _ => ⟨hb, hr.lt⟩⟩
    have h1 : (cur.toList.take (l.length * 1))[i]? = some (.int .i64 l[i]) := by rw [ht, List.getElem?_map, List.getElem?_eq_getElem hi]; rfl
    rw [List.getElem?_take_of_lt (by omega)] at h1
    rw [Nat.zero_add, ← Array.getElem?_toList]
    exact h1
theorem Its.ints {w : World} {base : Nat} {v : Value} {l : List Int} (h : Its w base v l) : IntsAt w base w.heap.size v l := by
  obtain ⟨g, ho, hg⟩ := h.own
  exact ho.strs hg
theorem one_i64 (x : Int) : ∀ u ∈ [Value.int .i64 x], u.oneCell' = true := by
  intro u hu
  rw [List.mem_singleton] at hu; subst hu; rfl
theorem Try.infoI64 : (Try.prog.info? 2).map (fun i => (i.zero, i.size, i.bytes)) = some (some (.int .i64 0), 1, 8) := by kernel_rfl

def eqIs (a b : List Int) : Bool := decide (a = b)
theorem eqIs_t {a b : List Int} (h : a = b) : eqIs a b = true := decide_eq_true h
theorem eqIs_f {a b : List Int} (h : a ≠ b) : eqIs a b = false := decide_eq_false h

/-- n numbers from k on -/
def marksI (k n : Nat) : List Int := (List.range n).map fun i => ((k + i : Nat) : Int)
theorem marksI_len (k n : Nat) : (marksI k n).length = n := by simp [marksI]
theorem marksI_at {k n i : Nat} (h : i < (marksI k n).length) : (marksI k n)[i] = ((k + i : Nat) : Int) := by simp [marksI]

theorem midI_pick {w w' : World} {lo hi g : Nat} {ss : List Int} (h1 : ss ≠ [] → lo ≤ g ∧ g < hi) (h2 : ss = [] → w.heap.size ≤ g) (m : Mid g (g + 1) w w') : Mid lo hi w w' :=
  ⟨m.os, m.tape, m.output, m.size, fun k hk hkk => m.block k hk (by
    by_cases e : ss = []
    · have := h2 e; omega
    · have := h1 e; omega)⟩
end Go.Proofs.Ytlgedjpolmlciaa
