/- The text of a term, as data. No program stands in this text. -/
import Derived.Test.YtcgmnpfeiiomgaaDoorTmd
import Derived.Test.YtcgmnpfeiiomgaaDoorDec
namespace Go.Proofs.YtcgmnpfeiiomgaaDoor
open Go.RowKit

/-- a number from 0 on in digits -/
def decT (n : Int) : List UInt8 := Lib.decDigits n.toNat
theorem decT_len {n : Int} (h : n ≤ 9223372036854775807) : (decT n).length ≤ 21 := dec_len (by omega)
mutual
/-- the text of a term -/
def textM : TermD → List UInt8
  | .node k n ks => if k = 1 then 40 :: decT n ++ blanksM ks ++ [41] else if k = 2 then 36 :: decT n else if k = 3 then [91, 93] else 60 :: joinsM ks ++ [62]
/-- a blank and its text, of each -/
def blanksM : List TermD → List UInt8
  | [] => []
  | t :: ts => (32 :: textM t) ++ blanksM ts
/-- their texts, with a blank between -/
def joinsM : List TermD → List UInt8
  | [] => []
  | t :: ts => textM t ++ blanksM ts
end
theorem textM_node {t : TermD} (h : t.kind = 1) : textM t = 40 :: decT t.num ++ blanksM t.kids ++ [41] := by
  cases t with | node k n ks =>
  simp only [TermD.kind, TermD.num, TermD.kids] at h ⊢
  unfold textM; rw [if_pos h]
theorem textM_var {t : TermD} (h : t.kind = 2) : textM t = 36 :: decT t.num := by
  cases t with | node k n ks =>
  simp only [TermD.kind, TermD.num] at h ⊢
  unfold textM; rw [if_neg (by omega), if_pos h]
theorem textM_box {t : TermD} (h : t.kind = 3) : textM t = [91, 93] := by
  cases t with | node k n ks =>
  simp only [TermD.kind] at h ⊢
  unfold textM; rw [if_neg (by omega), if_neg (by omega), if_pos h]
theorem textM_plug {t : TermD} (h : t.kind = 4) : textM t = 60 :: joinsM t.kids ++ [62] := by
  cases t with | node k n ks =>
  simp only [TermD.kind, TermD.kids] at h ⊢
  unfold textM; rw [if_neg (by omega), if_neg (by omega), if_neg (by omega)]
theorem blanksM_append (a b : List TermD) : blanksM (a ++ b) = blanksM a ++ blanksM b := by
  induction a with
  | nil => simp [blanksM]
  | cons t ts ih => simp [blanksM, ih, List.append_assoc]
theorem blanksM_take (ts : List TermD) (k : Nat) (h : k < ts.length) : blanksM (ts.take (k + 1)) = blanksM (ts.take k) ++ [32] ++ textM ts[k] := by
  rw [List.take_succ_eq_append_getElem h, blanksM_append]; simp [blanksM]
theorem joinsM_take0 (ts : List TermD) (h : 0 < ts.length) : joinsM (ts.take 1) = textM ts[0] := by
  cases ts with
  | nil => simp at h
  | cons t ts => simp [joinsM, blanksM]
theorem joinsM_take (ts : List TermD) (k : Nat) (h : k < ts.length) (hk : 0 < k) : joinsM (ts.take (k + 1)) = joinsM (ts.take k) ++ [32] ++ textM ts[k] := by
  cases ts with
  | nil => simp at h
  | cons t ts =>
    obtain ⟨j, rfl⟩ : ∃ j, k = j + 1 := ⟨k - 1, by omega⟩
    simp only [List.take_succ_cons, joinsM, List.getElem_cons_succ]
    rw [blanksM_take ts j (by simpa using h)]
    simp [List.append_assoc]
mutual
/-- all numbers of it are whole numbers that fit in -/
def fitsM : TermD → Prop
  | .node _ n ks => n ≤ 9223372036854775807 ∧ fitsMs ks
def fitsMs : List TermD → Prop
  | [] => True
  | t :: ts => fitsM t ∧ fitsMs ts
end
theorem fitsM_eq (t : TermD) : fitsM t ↔ t.num ≤ 9223372036854775807 ∧ fitsMs t.kids := by cases t; simp [fitsM, TermD.num, TermD.kids]
theorem fitsMs_of {ts : List TermD} (h : ∀ i (h : i < ts.length), fitsM ts[i]) : fitsMs ts := by
  induction ts with
  | nil => trivial
  | cons t ts ih => exact ⟨h 0 (by simp), ih fun i hi => h (i + 1) (by simp; omega)⟩
theorem KM.fits {z : Bool} {w : World} {lo hi : Nat} {v : Value} {ts : List TermD} (h : KM z w lo hi v ts) : fitsMs ts := by
  induction h with
  | mk A c ts U hl hc hs hcell sub ih => exact fitsMs_of fun i hi => (fitsM_eq _).2 ⟨(hs i hi).1.2, ih i hi⟩
mutual
theorem textM_len : (t : TermD) → fitsM t → (textM t).length + 1 ≤ 24 * sizeM t
  | .node k n ks => by
    intro hf
    unfold textM sizeM
    unfold fitsM at hf
    have h1 := blanksM_len ks hf.2
    have h2 := joinsM_len ks hf.2
    have h3 := decT_len hf.1
    split
    · simp only [List.length_append, List.length_cons, List.length_nil]; omega
    · split
      · simp only [List.length_cons]; omega
      · split
        · simp only [List.length_cons, List.length_nil]; omega
        · simp only [List.length_append, List.length_cons, List.length_nil]; omega
theorem blanksM_len : (ts : List TermD) → fitsMs ts → (blanksM ts).length ≤ 24 * sizeMs ts
  | [] => by intro _; simp [blanksM]
  | t :: ts => by
    intro hf
    unfold fitsMs at hf
    unfold blanksM sizeMs
    have h1 := textM_len t hf.1
    have h2 := blanksM_len ts hf.2
    simp only [List.length_append, List.length_cons]
    omega
theorem joinsM_len : (ts : List TermD) → fitsMs ts → (joinsM ts).length ≤ 24 * sizeMs ts
  | [] => by intro _; simp [joinsM]
  | t :: ts => by
    intro hf
    unfold fitsMs at hf
    unfold joinsM sizeMs
    have h1 := textM_len t hf.1
    have h2 := blanksM_len ts hf.2
    simp only [List.length_append]
    omega
end
/-- what is told of k of the Kids -/
def kidT (t : TermD) (k : Nat) : List UInt8 := if t.kind = 1 then blanksM (t.kids.take k) else joinsM (t.kids.take k)
theorem kidT_zero (t : TermD) : kidT t 0 = [] := by unfold kidT; simp [blanksM, joinsM]
theorem kidT_blank (t : TermD) (k : Nat) (h : k < t.kids.length) (hk : 0 < k ∨ t.kind = 1) : kidT t (k + 1) = kidT t k ++ [32] ++ textM t.kids[k] := by
  unfold kidT
  split
  · exact blanksM_take _ _ h
  · exact joinsM_take _ _ h (by omega)
theorem kidT_bare (t : TermD) (h : 0 < t.kids.length) (hk : t.kind ≠ 1) : kidT t 1 = textM t.kids[0] := by
  unfold kidT
  rw [if_neg hk]
  exact joinsM_take0 _ h
theorem fitsMs_take {ts : List TermD} (h : fitsMs ts) (k : Nat) : fitsMs (ts.take k) := by
  induction ts generalizing k with
  | nil => simp [fitsMs]
  | cons t ts ih =>
    cases k with
    | zero => simp [fitsMs]
    | succ k => exact ⟨h.1, ih h.2 k⟩
theorem kidT_len (t : TermD) (k : Nat) (h : fitsMs t.kids) : (kidT t k).length ≤ 24 * sizeMs t.kids := by
  have h1 := sizeMs_take_le t.kids k
  unfold kidT
  split
  · have := blanksM_len _ (fitsMs_take h k); omega
  · have := joinsM_len _ (fitsMs_take h k); omega
/-- the parts of what is right -/
theorem partM_parts {d : Nat} {t : TermD} (h : partM d t = true) : ∃ d', d = d' + 1 ∧ fieldB t = true ∧ ∀ i (h : i < t.kids.length), partM d' t.kids[i] = true := by
  cases d with
  | zero => cases h
  | succ d =>
    rw [partM_succ, Bool.and_eq_true, List.all_eq_true] at h
    exact ⟨d, rfl, h.1, fun i hi => h.2 _ (List.getElem_mem hi)⟩
theorem field_kind {t : TermD} (h : fieldB t = true) : (t.kind = 1 ∧ 0 ≤ t.num) ∨ (t.kind = 2 ∧ 0 ≤ t.num ∧ t.kids.length = 0) ∨ (t.kind = 3 ∧ t.kids.length = 0) ∨ (t.kind = 4 ∧ t.kids.length = 2) := by
  unfold fieldB at h
  split at h
  · rw [decide_eq_true_eq] at h; omega
  · split at h
    · rw [Bool.and_eq_true, decide_eq_true_eq, decide_eq_true_eq] at h; omega
    · split at h
      · rw [Bool.and_eq_true, decide_eq_true_eq, decide_eq_true_eq] at h; omega
      · split at h
        · rw [Bool.and_eq_true, decide_eq_true_eq, decide_eq_true_eq] at h; omega
        · cases h
/-- TermText, as data -/
def termT (t : TermD) : List UInt8 := if termB t = true then textM t else []
end Go.Proofs.YtcgmnpfeiiomgaaDoor
