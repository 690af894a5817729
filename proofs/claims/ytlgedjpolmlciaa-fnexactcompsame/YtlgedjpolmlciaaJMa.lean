import Derived.Test.YtlgedjpolmlciaaTre
import Derived.Test.YtlgedjpolmlciaaJOwns
/- Terms, as data, and as memory holds them: a list of terms in a slice, three cells each. No program stands in this text but its types' numbers. -/
namespace Go.Proofs.Ytlgedjpolmlciaa
open Go.RowKit

/-- a tree, as data -/
inductive TermD where
  | node (kind : Int) (num : Int) (kids : List TermD)
namespace TermD
def kind : TermD → Int | node r _ _ => r
def num : TermD → Int | node _ t _ => t
def kids : TermD → List TermD | node _ _ k => k
end TermD
instance : Inhabited TermD := ⟨.node 0 0 []⟩
mutual
/-- how many parts it has -/
def sizeM : TermD → Nat | .node _ _ ks => 1 + sizeMs ks
def sizeMs : List TermD → Nat | [] => 0 | t :: ts => sizeM t + sizeMs ts
end
theorem sizeM_eq (t : TermD) : sizeM t = 1 + sizeMs t.kids := by cases t; rfl
theorem sizeMs_append (a b : List TermD) : sizeMs (a ++ b) = sizeMs a + sizeMs b := by
  induction a with
  | nil => simp [sizeMs]
  | cons t ts ih => simp [sizeMs, ih]; omega
theorem sizeMs_take (ts : List TermD) (k : Nat) (h : k < ts.length) : sizeMs (ts.take (k + 1)) = sizeMs (ts.take k) + sizeM ts[k] := by
  rw [List.take_succ_eq_append_getElem h, sizeMs_append]; simp [sizeMs]
theorem sizeMs_take_le (ts : List TermD) (k : Nat) : sizeMs (ts.take k) ≤ sizeMs ts := by
  conv => rhs; rw [← List.take_append_drop k ts]
  rw [sizeMs_append]; omega
theorem sizeMs_get (ts : List TermD) (k : Nat) (h : k < ts.length) : sizeM ts[k] ≤ sizeMs ts := by
  have := sizeMs_take ts k h; have := sizeMs_take_le ts (k + 1); omega
theorem length_sizeMs (ts : List TermD) : ts.length ≤ sizeMs ts := by
  induction ts with
  | nil => simp
  | cons t ts ih => simp [sizeMs, sizeM_eq]; omega

/-- a list of terms, in blocks from lo on ahead of hi; z: none of these is frozen -/
inductive KM (z : Bool) (w : World) (lo hi : Nat) : Value → List TermD → Prop
  | mk (A : Option Addr) (c : Nat) (ts : List TermD) (U : Nat → Value) (hl : ts.length ≤ c) (hc : c ≤ maxLen)
    (hs : ∀ i (h : i < ts.length), (-9223372036854775808 ≤ ts[i].num ∧ ts[i].num ≤ 9223372036854775807) ∧ -9223372036854775808 ≤ ts[i].kind ∧ ts[i].kind ≤ 9223372036854775807)
    (hcell : 0 < ts.length → ∃ b off, A = some ⟨b, off, none⟩ ∧ lo ≤ b ∧ b < hi ∧ (z = true → FreeB w b) ∧ ∀ i (h : i < ts.length), w.cell? ⟨b, off + i * 3, none⟩ = some (.int .i64 ts[i].kind) ∧ w.cell? ⟨b, off + i * 3 + 1, none⟩ = some (.int .i64 ts[i].num) ∧ w.cell? ⟨b, off + i * 3 + 2, none⟩ = some (U i))
    (sub : ∀ i (h : i < ts.length), KM z w lo hi (U i) ts[i].kids) : KM z w lo hi (.slice A ts.length c) ts
theorem KM.parts {z : Bool} {w : World} {lo hi : Nat} {v : Value} {ts : List TermD} (h : KM z w lo hi v ts) :
    ∃ (A : Option Addr) (c : Nat) (U : Nat → Value), v = .slice A ts.length c ∧ ts.length ≤ c ∧ c ≤ maxLen ∧
      (∀ i (h : i < ts.length), (-9223372036854775808 ≤ ts[i].num ∧ ts[i].num ≤ 9223372036854775807) ∧ -9223372036854775808 ≤ ts[i].kind ∧ ts[i].kind ≤ 9223372036854775807) ∧
      (0 < ts.length → ∃ b off, A = some ⟨b, off, none⟩ ∧ lo ≤ b ∧ b < hi ∧ (z = true → FreeB w b) ∧ ∀ i (h : i < ts.length), w.cell? ⟨b, off + i * 3, none⟩ = some (.int .i64 ts[i].kind) ∧ w.cell? ⟨b, off + i * 3 + 1, none⟩ = some (.int .i64 ts[i].num) ∧ w.cell? ⟨b, off + i * 3 + 2, none⟩ = some (U i)) ∧
      (∀ i (h : i < ts.length), KM z w lo hi (U i) ts[i].kids) := by
  cases h with
  | mk A c ts U hl hc hs hcell sub => exact ⟨A, c, U, rfl, hl, hc, hs, hcell, sub⟩
theorem KM.keep {z : Bool} {w w' : World} {lo hi : Nat} {v : Value} {ts : List TermD} (h : KM z w lo hi v ts) (k : Keeps lo hi w w') : KM z w' lo hi v ts := by
  induction h with
  | mk A c ts U hl hc hs hcell sub ih =>
    refine .mk A c ts U hl hc hs (fun hp => ?_) ih
    obtain ⟨b, off, e, h1, h2, hz, hcc⟩ := hcell hp
    refine ⟨b, off, e, h1, h2, fun e => by obtain ⟨x, y, hh⟩ := hz e; exact ⟨x, y, (k b h1 h2).trans hh⟩, fun i hi => ?_⟩
    obtain ⟨a1, a2, a3⟩ := hcc i hi
    exact ⟨(k.cell (p := ⟨b, off + i * 3, none⟩) h1 h2).trans a1, (k.cell (p := ⟨b, off + i * 3 + 1, none⟩) h1 h2).trans a2, (k.cell (p := ⟨b, off + i * 3 + 2, none⟩) h1 h2).trans a3⟩
theorem KM.more {z : Bool} {w : World} {lo hi lo' hi' : Nat} {v : Value} {ts : List TermD} (h : KM z w lo hi v ts) (g1 : lo' ≤ lo) (g2 : hi ≤ hi') : KM z w lo' hi' v ts := by
  induction h with
  | mk A c ts U hl hc hs hcell sub ih =>
    refine .mk A c ts U hl hc hs (fun hp => ?_) ih
    obtain ⟨b, off, e, h1, h2, hz, hcc⟩ := hcell hp
    exact ⟨b, off, e, by omega, by omega, hz, hcc⟩
theorem KM.under {z : Bool} {w w' : World} {lo hi : Nat} {v : Value} {ts : List TermD} (h : KM z w lo hi v ts) {B : Nat} (b : Below B w w') (hB : hi ≤ B) : KM z w' lo hi v ts := h.keep (Keeps.below b hB)
theorem KM.drewN {z : Bool} {w : World} {lo hi : Nat} {v : Value} {ts : List TermD} (h : KM z w lo hi v ts) (n : Nat) : KM z (w.drewN n) lo hi v ts := h.keep (fun _ _ _ => rfl)
theorem TermD.ext_of {a b : TermD} (h1 : a.kind = b.kind) (h2 : a.num = b.num) (h3 : a.kids = b.kids) : a = b := by
  cases a; cases b
  simp only [TermD.kind, TermD.num, TermD.kids] at h1 h2 h3
  subst h1 h2 h3; rfl
/-- what lies at a place is one list of terms -/
theorem KM.same {z z' : Bool} {w : World} {lo hi lo' hi' : Nat} {v : Value} {ts : List TermD} (h : KM z w lo hi v ts) : ∀ {A : Option Addr} {n c c' : Nat} {ts' : List TermD}, v = .slice A n c → KM z' w lo' hi' (.slice A n c') ts' → ts' = ts := by
  induction h with
  | mk A c ts U hl hc hs hcell sub ih =>
    intro A' n c2 c' ts' he h'
    injection he with e1 e2 e3
    subst e1 e2 e3
    obtain ⟨A2, c3, U2, e, k1, k2, k3, k4, k5⟩ := h'.parts
    injection e with e1 e2 e3
    subst e1 e3
    refine List.ext_getElem e2.symm fun i h1 h2 => ?_
    obtain ⟨b, off, ea, _, _, _, hcc⟩ := hcell (by omega)
    obtain ⟨b', off', ea', _, _, _, hcc'⟩ := k4 (by omega)
    rw [ea] at ea'
    injection ea' with ea'
    injection ea' with eb eo
    subst eb eo
    obtain ⟨a1, a2, a3⟩ := hcc i h2
    obtain ⟨a1', a2', a3'⟩ := hcc' i h1
    rw [a1] at a1'; rw [a2] at a2'; rw [a3] at a3'
    injection a1' with a1'; injection a1' with _ a1'
    injection a2' with a2'; injection a2' with _ a2'
    injection a3' with a3'
    have hk1 := sub i h2
    obtain ⟨A4, c4, U4, e4, _⟩ := hk1.parts
    have hk2 := k5 i h1
    rw [← a3', e4] at hk2
    exact TermD.ext_of a1'.symm a2'.symm (ih i h2 e4 hk2)

theorem KM.loose {z : Bool} {w : World} {lo hi : Nat} {v : Value} {ts : List TermD} (h : KM z w lo hi v ts) : KM false w lo hi v ts := by
  induction h with
  | mk A c ts U hl hc hs hcell sub ih =>
    refine .mk A c ts U hl hc hs (fun hp => ?_) ih
    obtain ⟨b, off, e, h1, h2, hz, hcc⟩ := hcell hp
    exact ⟨b, off, e, h1, h2, (fun e => by cases e), hcc⟩

/-- a tree, as a value -/
def tmV (t : TermD) (u : Value) : Value := .agg #[.int .i64 t.kind, .int .i64 t.num, u]
/-- a right text and number stand at a tree's top -/
def TopM (t : TermD) : Prop := (-9223372036854775808 ≤ t.num ∧ t.num ≤ 9223372036854775807) ∧ -9223372036854775808 ≤ t.kind ∧ t.kind ≤ 9223372036854775807

/-- the blocks of trees that may be written: the list of Kids stands behind each -/
inductive ShM (w : World) (lo hi : Nat) : Value → List TermD → Prop
  | mk (A : Option Addr) (c : Nat) (ts : List TermD) (U : Nat → Value) (hl : ts.length ≤ c) (hc : c ≤ maxLen)
    (hcell : 0 < ts.length → ∃ b cur, A = some ⟨b, 0, none⟩ ∧ lo ≤ b ∧ b < hi ∧ Row w b 39 cur ∧ cur.size = ts.length * 3 ∧ ∀ i, i < ts.length → cur[i * 3 + 2]? = some (U i))
    (sub : ∀ i (h : i < ts.length), ShM w lo hi (U i) ts[i].kids) : ShM w lo hi (.slice A ts.length c) ts
theorem ShM.parts {w : World} {lo hi : Nat} {v : Value} {ts : List TermD} (h : ShM w lo hi v ts) :
    ∃ (A : Option Addr) (c : Nat) (U : Nat → Value), v = .slice A ts.length c ∧ ts.length ≤ c ∧ c ≤ maxLen ∧
      (0 < ts.length → ∃ b cur, A = some ⟨b, 0, none⟩ ∧ lo ≤ b ∧ b < hi ∧ Row w b 39 cur ∧ cur.size = ts.length * 3 ∧ ∀ i, i < ts.length → cur[i * 3 + 2]? = some (U i)) ∧
      (∀ i (h : i < ts.length), ShM w lo hi (U i) ts[i].kids) := by
  cases h with
  | mk A c ts U hl hc hcell sub => exact ⟨A, c, U, rfl, hl, hc, hcell, sub⟩
theorem ShM.keep {w w' : World} {lo hi : Nat} {v : Value} {ts : List TermD} (h : ShM w lo hi v ts) (k : Keeps lo hi w w') : ShM w' lo hi v ts := by
  induction h with
  | mk A c ts U hl hc hcell sub ih =>
    refine .mk A c ts U hl hc (fun hp => ?_) ih
    obtain ⟨b, cur, e, h1, h2, hr, hcc⟩ := hcell hp
    exact ⟨b, cur, e, h1, h2, hr.same (k b h1 h2), hcc⟩
theorem ShM.more {w : World} {lo hi lo' hi' : Nat} {v : Value} {ts : List TermD} (h : ShM w lo hi v ts) (g1 : lo' ≤ lo) (g2 : hi ≤ hi') : ShM w lo' hi' v ts := by
  induction h with
  | mk A c ts U hl hc hcell sub ih =>
    refine .mk A c ts U hl hc (fun hp => ?_) ih
    obtain ⟨b, cur, e, h1, h2, hr, hcc⟩ := hcell hp
    exact ⟨b, cur, e, by omega, by omega, hr, hcc⟩
theorem ShM.under {w w' : World} {lo hi : Nat} {v : Value} {ts : List TermD} (h : ShM w lo hi v ts) {B : Nat} (b : Below B w w') (hB : hi ≤ B) : ShM w' lo hi v ts := h.keep (Keeps.below b hB)
/-- a Rule or a Tok is written somewhere: all shapes stand -/
theorem ShM.put {w : World} {lo hi : Nat} {v : Value} {ts : List TermD} (h : ShM w lo hi v ts) (g i : Nat) (x : Value) (hi2 : ∀ j, i ≠ j * 3 + 2) : ShM (w.setCell ⟨g, i, none⟩ x) lo hi v ts := by
  induction h with
  | mk A c ts U hl hc hcell sub ih =>
    refine .mk A c ts U hl hc (fun hp => ?_) ih
    obtain ⟨b, cur, e, h1, h2, hr, hsz, hcc⟩ := hcell hp
    by_cases hb : b = g
    · subst hb
      exact ⟨b, _, e, h1, h2, hr.put i x, by simp [hsz], fun j hj => by rw [Array.getElem?_setIfInBounds_ne (hi2 j)]; exact hcc j hj⟩
    · exact ⟨b, cur, e, h1, h2, hr.away hb x, hsz, hcc⟩
end Go.Proofs.Ytlgedjpolmlciaa

/- Mades, as data, and as memory holds them: a list of Mades in a slice, five cells each. No program stands in this text but its types' numbers. -/
namespace Go.Proofs.Ytlgedjpolmlciaa
open Go.RowKit

/-- a Made, as data -/
structure MadeD where
  head : ByteArray
  body : List ByteArray
  term : TermD

/-- a Made in five cells from an address on -/
def MadeAt (z : Bool) (w : World) (lo hi b o : Nat) (m : MadeD) : Prop :=
  m.head.size ≤ maxLen ∧ TopM m.term ∧ w.cell? ⟨b, o, none⟩ = some (.string m.head) ∧
    ∃ u x, w.cell? ⟨b, o + 1, none⟩ = some u ∧ w.cell? ⟨b, o + 2, none⟩ = some (.int .i64 m.term.kind) ∧ w.cell? ⟨b, o + 3, none⟩ = some (.int .i64 m.term.num) ∧ w.cell? ⟨b, o + 4, none⟩ = some x ∧
      Strs w lo hi u m.body ∧ KM z w lo hi x m.term.kids
/-- a list of Mades, in blocks from lo on ahead of hi; z: none of these is frozen -/
def DM (z : Bool) (w : World) (lo hi : Nat) (v : Value) (ms : List MadeD) : Prop :=
  ∃ A c, v = .slice A ms.length c ∧ ms.length ≤ c ∧ c ≤ maxLen ∧
    (0 < ms.length → ∃ b off, A = some ⟨b, off, none⟩ ∧ lo ≤ b ∧ b < hi ∧ (z = true → FreeB w b) ∧ ∀ i (h : i < ms.length), MadeAt z w lo hi b (off + i * 5) ms[i])
theorem MadeAt.keep {z : Bool} {w w' : World} {lo hi b o : Nat} {m : MadeD} (h : MadeAt z w lo hi b o m) (h1 : lo ≤ b) (h2 : b < hi) (k : Keeps lo hi w w') : MadeAt z w' lo hi b o m := by
  obtain ⟨a1, a2, a3, u, x, a4, a5, a6, a7, a8, a9⟩ := h
  exact ⟨a1, a2, (k.cell (p := ⟨b, o, none⟩) h1 h2).trans a3, u, x, (k.cell (p := ⟨b, o + 1, none⟩) h1 h2).trans a4, (k.cell (p := ⟨b, o + 2, none⟩) h1 h2).trans a5, (k.cell (p := ⟨b, o + 3, none⟩) h1 h2).trans a6, (k.cell (p := ⟨b, o + 4, none⟩) h1 h2).trans a7, a8.keep k, a9.keep k⟩
theorem MadeAt.more {z : Bool} {w : World} {lo hi lo' hi' b o : Nat} {m : MadeD} (h : MadeAt z w lo hi b o m) (g1 : lo' ≤ lo) (g2 : hi ≤ hi') : MadeAt z w lo' hi' b o m := by
  obtain ⟨a1, a2, a3, u, x, a4, a5, a6, a7, a8, a9⟩ := h
  exact ⟨a1, a2, a3, u, x, a4, a5, a6, a7, a8.more g1 g2, a9.more g1 g2⟩
theorem DM.keep {z : Bool} {w w' : World} {lo hi : Nat} {v : Value} {ms : List MadeD} (h : DM z w lo hi v ms) (k : Keeps lo hi w w') : DM z w' lo hi v ms := by
  obtain ⟨A, c, h1, h2, h3, h4⟩ := h
  refine ⟨A, c, h1, h2, h3, fun hp => ?_⟩
  obtain ⟨b, off, e, hl, hh, hz, hc⟩ := h4 hp
  exact ⟨b, off, e, hl, hh, fun e => by obtain ⟨x, y, hh'⟩ := hz e; exact ⟨x, y, (k b hl hh).trans hh'⟩, fun i hi => (hc i hi).keep hl hh k⟩
theorem DM.more {z : Bool} {w : World} {lo hi lo' hi' : Nat} {v : Value} {ms : List MadeD} (h : DM z w lo hi v ms) (g1 : lo' ≤ lo) (g2 : hi ≤ hi') : DM z w lo' hi' v ms := by
  obtain ⟨A, c, h1, h2, h3, h4⟩ := h
  refine ⟨A, c, h1, h2, h3, fun hp => ?_⟩
  obtain ⟨b, off, e, hl, hh, hz, hc⟩ := h4 hp
  exact ⟨b, off, e, by omega, by omega, hz, fun i hi => (hc i hi).more g1 g2⟩
theorem DM.under {z : Bool} {w w' : World} {lo hi : Nat} {v : Value} {ms : List MadeD} (h : DM z w lo hi v ms) {B : Nat} (b : Below B w w') (hB : hi ≤ B) : DM z w' lo hi v ms := h.keep (Keeps.below b hB)
theorem DM.drewN {z : Bool} {w : World} {lo hi : Nat} {v : Value} {ms : List MadeD} (h : DM z w lo hi v ms) (n : Nat) : DM z (w.drewN n) lo hi v ms := h.keep (fun _ _ _ => rfl)
theorem MadeAt.loose {z : Bool} {w : World} {lo hi b o : Nat} {m : MadeD} (h : MadeAt z w lo hi b o m) : MadeAt false w lo hi b o m := by
  obtain ⟨a1, a2, a3, u, x, a4, a5, a6, a7, a8, a9⟩ := h
  exact ⟨a1, a2, a3, u, x, a4, a5, a6, a7, a8, a9.loose⟩
theorem DM.loose {z : Bool} {w : World} {lo hi : Nat} {v : Value} {ms : List MadeD} (h : DM z w lo hi v ms) : DM false w lo hi v ms := by
  obtain ⟨A, c, h1, h2, h3, h4⟩ := h
  refine ⟨A, c, h1, h2, h3, fun hp => ?_⟩
  obtain ⟨b, off, e, hl, hh, hz, hc⟩ := h4 hp
  exact ⟨b, off, e, hl, hh, (fun e => by cases e), fun i hi => (hc i hi).loose⟩
/-- the value of a Made -/
def mdV (m : MadeD) (u x : Value) : Value := .agg #[.string m.head, u, .int .i64 m.term.kind, .int .i64 m.term.num, x]

/-- how many values and letters the law counts in a list of Mades -/
def bulkD (m : MadeD) : Nat := m.head.size + bulkS m.body + sizeMs m.term.kids
def bulkDs (ms : List MadeD) : Nat := ms.length + (ms.map bulkD).sum
def madesTo (ms : List MadeD) (k : Nat) : Nat := ((ms.take k).map bulkD).sum
theorem madesTo_succ (ms : List MadeD) (k : Nat) (h : k < ms.length) : madesTo ms (k + 1) = madesTo ms k + bulkD ms[k] := by
  unfold madesTo; rw [List.take_succ_eq_append_getElem h, List.map_append, List.sum_append]; simp
theorem madesTo_le (ms : List MadeD) (k : Nat) : ms.length + madesTo ms k ≤ bulkDs ms := by
  unfold bulkDs madesTo
  conv => rhs; rw [← List.take_append_drop k ms]
  rw [List.map_append, List.sum_append]; simp
theorem madesTo_all (ms : List MadeD) : ms.length + madesTo ms ms.length = bulkDs ms := by unfold madesTo bulkDs; rw [List.take_length]
theorem bulkD_get {ms : List MadeD} {k : Nat} (h : k < ms.length) : ms.length + bulkD ms[k] ≤ bulkDs ms := by
  have h1 := madesTo_succ ms k h
  have h2 := madesTo_le ms (k + 1)
  omega
end Go.Proofs.Ytlgedjpolmlciaa
