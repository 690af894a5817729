/- Trees, as data, and as memory holds them: a list of trees in a slice, three cells each. No program stands in this text but its types' numbers. -/
import Derived.Test.YtlgedjpolmlciaaJOwns
namespace Go.Proofs.Ytlgedjpolmlciaa
open Go.RowKit

/-- a tree, as data -/
inductive TreeD where
  | node (rule : Int) (tok : ByteArray) (kids : List TreeD)
namespace TreeD
def rule : TreeD → Int | node r _ _ => r
def tok : TreeD → ByteArray | node _ t _ => t
def kids : TreeD → List TreeD | node _ _ k => k
end TreeD
instance : Inhabited TreeD := ⟨.node 0 ByteArray.empty []⟩
mutual
/-- how many parts it has -/
def sizeT : TreeD → Nat | .node _ _ ks => 1 + sizeTs ks
def sizeTs : List TreeD → Nat | [] => 0 | t :: ts => sizeT t + sizeTs ts
end
mutual
/-- how many parts and letters are below it, with its own letters -/
def bulkT : TreeD → Nat | .node _ s ks => s.size + bulkTs ks
def bulkTs : List TreeD → Nat | [] => 0 | t :: ts => 1 + bulkT t + bulkTs ts
end
theorem sizeT_eq (t : TreeD) : sizeT t = 1 + sizeTs t.kids := by cases t; rfl
theorem bulkT_eq (t : TreeD) : bulkT t = t.tok.size + bulkTs t.kids := by cases t; rfl
theorem sizeTs_append (a b : List TreeD) : sizeTs (a ++ b) = sizeTs a + sizeTs b := by
  induction a with
  | nil => simp [sizeTs]
  | cons t ts ih => simp [sizeTs, ih]; omega
theorem bulkTs_append (a b : List TreeD) : bulkTs (a ++ b) = bulkTs a + bulkTs b := by
  induction a with
  | nil => simp [bulkTs]
  | cons t ts ih => simp [bulkTs, ih]; omega
theorem sizeTs_take (ts : List TreeD) (k : Nat) (h : k < ts.length) : sizeTs (ts.take (k + 1)) = sizeTs (ts.take k) + sizeT ts[k] := by
  rw [List.take_succ_eq_append_getElem h, sizeTs_append]; simp [sizeTs]
theorem bulkTs_take (ts : List TreeD) (k : Nat) (h : k < ts.length) : bulkTs (ts.take (k + 1)) = bulkTs (ts.take k) + (1 + bulkT ts[k]) := by
  rw [List.take_succ_eq_append_getElem h, bulkTs_append]; simp [bulkTs]
theorem sizeTs_take_le (ts : List TreeD) (k : Nat) : sizeTs (ts.take k) ≤ sizeTs ts := by
  conv => rhs; rw [← List.take_append_drop k ts]
  rw [sizeTs_append]; omega
theorem bulkTs_take_le (ts : List TreeD) (k : Nat) : bulkTs (ts.take k) ≤ bulkTs ts := by
  conv => rhs; rw [← List.take_append_drop k ts]
  rw [bulkTs_append]; omega
theorem sizeTs_get (ts : List TreeD) (k : Nat) (h : k < ts.length) : sizeT ts[k] ≤ sizeTs ts := by
  have := sizeTs_take ts k h; have := sizeTs_take_le ts (k + 1); omega
theorem bulkTs_get (ts : List TreeD) (k : Nat) (h : k < ts.length) : 1 + bulkT ts[k] ≤ bulkTs ts := by
  have := bulkTs_take ts k h; have := bulkTs_take_le ts (k + 1); omega
theorem length_sizeTs (ts : List TreeD) : ts.length ≤ sizeTs ts := by
  induction ts with
  | nil => simp
  | cons t ts ih => simp [sizeTs, sizeT_eq]; omega
theorem length_bulkTs (ts : List TreeD) : ts.length + bulkTs (ts.take 0) ≤ bulkTs ts := by
  induction ts with
  | nil => simp [bulkTs]
  | cons t ts ih => simp [bulkTs] at ih ⊢; omega
theorem length_take_bulkTs (ts : List TreeD) (k : Nat) (h : k ≤ ts.length) : (ts.length - k) + bulkTs (ts.take k) ≤ bulkTs ts := by
  conv => rhs; rw [← List.take_append_drop k ts]
  rw [bulkTs_append]
  have := length_bulkTs (ts.drop k)
  simp [bulkTs] at this; omega
theorem sizeTs_bulkTs (n : Nat) : ∀ ts : List TreeD, sizeTs ts ≤ n → sizeTs ts ≤ bulkTs ts := by
  induction n with
  | zero => intro ts h; omega
  | succ n ih =>
    intro ts
    induction ts with
    | nil => intro _; simp [sizeTs]
    | cons t ts ih2 =>
      intro h
      have e := sizeT_eq t
      have e2 := bulkT_eq t
      simp only [sizeTs, bulkTs] at h ⊢
      have := ih t.kids (by omega)
      have := ih2 (by omega)
      omega
theorem sizeTs_le_bulkTs (ts : List TreeD) : sizeTs ts ≤ bulkTs ts := sizeTs_bulkTs _ ts (Nat.le_refl _)
theorem sizeT_le_bulkT (t : TreeD) : sizeT t ≤ 1 + bulkT t := by
  have := sizeT_eq t; have := bulkT_eq t; have := sizeTs_le_bulkTs t.kids; omega

/-- block b may be written (nothing in it is frozen) -/
def FreeB (w : World) (b : Nat) : Prop := ∃ cur t, w.heap[b]? = some (.cells cur t (0, 0))
/-- a list of trees, in blocks from lo on ahead of hi; z: none of these is frozen -/
inductive Kd (z : Bool) (w : World) (lo hi : Nat) : Value → List TreeD → Prop
  | mk (A : Option Addr) (c : Nat) (ts : List TreeD) (U : Nat → Value) (hl : ts.length ≤ c) (hc : c ≤ maxLen)
    (hs : ∀ i (h : i < ts.length), ts[i].tok.size ≤ maxLen ∧ -9223372036854775808 ≤ ts[i].rule ∧ ts[i].rule ≤ 9223372036854775807)
    (hcell : 0 < ts.length → ∃ b off, A = some ⟨b, off, none⟩ ∧ lo ≤ b ∧ b < hi ∧ (z = true → FreeB w b) ∧ ∀ i (h : i < ts.length), w.cell? ⟨b, off + i * 3, none⟩ = some (.int .i64 ts[i].rule) ∧ w.cell? ⟨b, off + i * 3 + 1, none⟩ = some (.string ts[i].tok) ∧ w.cell? ⟨b, off + i * 3 + 2, none⟩ = some (U i))
    (sub : ∀ i (h : i < ts.length), Kd z w lo hi (U i) ts[i].kids) : Kd z w lo hi (.slice A ts.length c) ts
theorem Kd.parts {z : Bool} {w : World} {lo hi : Nat} {v : Value} {ts : List TreeD} (h : Kd z w lo hi v ts) :
    ∃ (A : Option Addr) (c : Nat) (U : Nat → Value), v = .slice A ts.length c ∧ ts.length ≤ c ∧ c ≤ maxLen ∧
      (∀ i (h : i < ts.length), ts[i].tok.size ≤ maxLen ∧ -9223372036854775808 ≤ ts[i].rule ∧ ts[i].rule ≤ 9223372036854775807) ∧
      (0 < ts.length → ∃ b off, A = some ⟨b, off, none⟩ ∧ lo ≤ b ∧ b < hi ∧ (z = true → FreeB w b) ∧ ∀ i (h : i < ts.length), w.cell? ⟨b, off + i * 3, none⟩ = some (.int .i64 ts[i].rule) ∧ w.cell? ⟨b, off + i * 3 + 1, none⟩ = some (.string ts[i].tok) ∧ w.cell? ⟨b, off + i * 3 + 2, none⟩ = some (U i)) ∧
      (∀ i (h : i < ts.length), Kd z w lo hi (U i) ts[i].kids) := by
  cases h with
  | mk A c ts U hl hc hs hcell sub => exact ⟨A, c, U, rfl, hl, hc, hs, hcell, sub⟩
theorem Kd.keep {z : Bool} {w w' : World} {lo hi : Nat} {v : Value} {ts : List TreeD} (h : Kd z w lo hi v ts) (k : Keeps lo hi w w') : Kd z w' lo hi v ts := by
  induction h with
  | mk A c ts U hl hc hs hcell sub ih =>
    refine .mk A c ts U hl hc hs (fun hp => ?_) ih
    obtain ⟨b, off, e, h1, h2, hz, hcc⟩ := hcell hp
    refine ⟨b, off, e, h1, h2, fun e => by obtain ⟨x, y, hh⟩ := hz e; exact ⟨x, y, (k b h1 h2).trans hh⟩, fun i hi => ?_⟩
    obtain ⟨a1, a2, a3⟩ := hcc i hi
    exact ⟨(k.cell (p := ⟨b, off + i * 3, none⟩) h1 h2).trans a1, (k.cell (p := ⟨b, off + i * 3 + 1, none⟩) h1 h2).trans a2, (k.cell (p := ⟨b, off + i * 3 + 2, none⟩) h1 h2).trans a3⟩
theorem Kd.more {z : Bool} {w : World} {lo hi lo' hi' : Nat} {v : Value} {ts : List TreeD} (h : Kd z w lo hi v ts) (g1 : lo' ≤ lo) (g2 : hi ≤ hi') : Kd z w lo' hi' v ts := by
  induction h with
  | mk A c ts U hl hc hs hcell sub ih =>
    refine .mk A c ts U hl hc hs (fun hp => ?_) ih
    obtain ⟨b, off, e, h1, h2, hz, hcc⟩ := hcell hp
    exact ⟨b, off, e, by omega, by omega, hz, hcc⟩
theorem Kd.under {z : Bool} {w w' : World} {lo hi : Nat} {v : Value} {ts : List TreeD} (h : Kd z w lo hi v ts) {B : Nat} (b : Below B w w') (hB : hi ≤ B) : Kd z w' lo hi v ts := h.keep (Keeps.below b hB)
theorem Kd.drewN {z : Bool} {w : World} {lo hi : Nat} {v : Value} {ts : List TreeD} (h : Kd z w lo hi v ts) (n : Nat) : Kd z (w.drewN n) lo hi v ts := h.keep (fun _ _ _ => rfl)
theorem TreeD.ext_of {a b : TreeD} (h1 : a.rule = b.rule) (h2 : a.tok = b.tok) (h3 : a.kids = b.kids) : a = b := by
  cases a; cases b
  simp only [TreeD.rule, TreeD.tok, TreeD.kids] at h1 h2 h3
  subst h1 h2 h3; rfl
/-- what lies at a place is one list of trees -/
theorem Kd.same {z z' : Bool} {w : World} {lo hi lo' hi' : Nat} {v : Value} {ts : List TreeD} (h : Kd z w lo hi v ts) : ∀ {A : Option Addr} {n c c' : Nat} {ts' : List TreeD}, v = .slice A n c → Kd z' w lo' hi' (.slice A n c') ts' → ts' = ts := by
  induction h with
  | mk A c ts U hl hc hs hcell sub ih =>
    intro A' n c2 c' ts' he h'
    injection he with e1 e2 e3
    subst e1 e2 e3
    obtain ⟨A2, c3, U2, e, k1, k2, k3, k4, k5⟩ := h'.parts
    injection e with e1 e2 e3
    subst e1 e3
    refine List.ext_getElem e2.symm fun i h1 h2 => ?_
    obtain ⟨b, off, ea, _, _, _, hcc⟩ := hcell (by omega)
    obtain ⟨b', off', ea', _, _, _, hcc'⟩ := k4 (by omega)
    rw [ea] at ea'
    injection ea' with ea'
    injection ea' with eb eo
    subst eb eo
    obtain ⟨a1, a2, a3⟩ := hcc i h2
    obtain ⟨a1', a2', a3'⟩ := hcc' i h1
    rw [a1] at a1'; rw [a2] at a2'; rw [a3] at a3'
    injection a1' with a1'; injection a1' with _ a1'
    injection a2' with a2'; injection a2' with a2'
    injection a3' with a3'
    have hk1 := sub i h2
    obtain ⟨A4, c4, U4, e4, _⟩ := hk1.parts
    have hk2 := k5 i h1
    rw [← a3', e4] at hk2
    exact TreeD.ext_of a1'.symm a2'.symm (ih i h2 e4 hk2)

theorem Kd.loose {z : Bool} {w : World} {lo hi : Nat} {v : Value} {ts : List TreeD} (h : Kd z w lo hi v ts) : Kd false w lo hi v ts := by
  induction h with
  | mk A c ts U hl hc hs hcell sub ih =>
    refine .mk A c ts U hl hc hs (fun hp => ?_) ih
    obtain ⟨b, off, e, h1, h2, hz, hcc⟩ := hcell hp
    exact ⟨b, off, e, h1, h2, (fun e => by cases e), hcc⟩

/-- a tree, as a value -/
def trV (t : TreeD) (u : Value) : Value := .agg #[.int .i64 t.rule, .string t.tok, u]
/-- a right text and number stand at a tree's top -/
def TopOk (t : TreeD) : Prop := t.tok.size ≤ maxLen ∧ -9223372036854775808 ≤ t.rule ∧ t.rule ≤ 9223372036854775807

end Go.Proofs.Ytlgedjpolmlciaa
