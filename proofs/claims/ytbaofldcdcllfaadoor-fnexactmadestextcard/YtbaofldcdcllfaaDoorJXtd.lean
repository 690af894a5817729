import Derived.Test.YtbaofldcdcllfaaDoorOwns
import Derived.Lib.ItoaNum
import Derived.Lib.ItoaLen
import Derived.Laws.IdiomStrings
import Derived.WalkKit
import Derived.WalkSpells
import Derived.WalkLawsBesides
import Derived.Test.YtbaofldcdcllfaaDoorJTmd
/- A number in digits: the model's l01Dec. -/
namespace Go.Proofs.YtbaofldcdcllfaaDoor
open Go.RowKit

theorem dec_more {m : Nat} (h : 10 ≤ m) : Lib.decDigits m = Lib.decDigits (m / 10) ++ [UInt8.ofNat (48 + m % 10)] := by
  conv => lhs; rw [Lib.decDigits]
  rw [dif_neg (by omega)]
theorem dec_one {m : Nat} (h : m < 10) : Lib.decDigits m = [UInt8.ofNat (48 + m % 10)] := by
  rw [Lib.decDigits_one h, Nat.mod_eq_of_lt h]
/-- what is told so far, and what is left to tell, are the number -/
def DecAt (N m : Nat) (o : List UInt8) : Prop := (if m = 0 then o else Lib.decDigits m ++ o) = Lib.decDigits N
theorem DecAt.step {N m : Nat} {o : List UInt8} (h : DecAt N m o) (hm : 0 < m) : DecAt N (m / 10) (UInt8.ofNat (48 + m % 10) :: o) := by
  unfold DecAt at h ⊢
  rw [if_neg (by omega)] at h
  rw [← h]
  by_cases h1 : m < 10
  · rw [if_pos (by omega), dec_one h1]; rfl
  · have e := dec_more (m := m) (by omega)
    rw [if_neg (by omega), e, List.append_assoc]; rfl
theorem DecAt.len {N m : Nat} {o : List UInt8} (h : DecAt N m o) (hN : N ≤ 9223372036854775807) : o.length ≤ 21 := by
  have h1 := Lib.itoa_length_le (N : Int) (by omega) (by omega)
  unfold Lib.itoa at h1
  rw [if_neg (by omega), Int.toNat_natCast, ← h] at h1
  split at h1
  · exact h1
  · rw [List.length_append] at h1; omega
theorem dec_len {N : Nat} (hN : N ≤ 9223372036854775807) : (Lib.decDigits N).length ≤ 21 := by
  have h1 := Lib.itoa_length_le (N : Int) (by omega) (by omega)
  unfold Lib.itoa at h1
  rw [if_neg (by omega), Int.toNat_natCast] at h1
  exact h1
theorem convD_one (w : World) (d : Nat) (hd : d < 10) :
    (convert 45 9 (.slice (some ⟨w.heap.size, 0, none⟩) 1 1)).run Tryd.prog (w.alloc (.cells #[.int .u8 (48 + (d : Int))] 5)) = .ok (.string ⟨#[UInt8.ofNat (48 + d)]⟩) (w.alloc (.cells #[.int .u8 (48 + (d : Int))] 5)) := by
  have R := Row.made w 5 #[.int .u8 (48 + (d : Int))]
  have := run_convert_bytes_back (P := Tryd.prog) (w.alloc (.cells #[.int .u8 (48 + (d : Int))] 5)) 45 9 5 ⟨w.heap.size, 0, none⟩ 1 [UInt8.ofNat (48 + d)] Tryd.underlying45 Tryd.underlying5 Tryd.underlying9 (fun j hj => by
    obtain rfl : j = 0 := by simp at hj; omega
    have c : (w.alloc (.cells #[.int .u8 (48 + (d : Int))] 5)).cell? ⟨w.heap.size, 0, none⟩ = some (.int .u8 (48 + (d : Int))) := (R.cell 0).trans rfl
    show (w.alloc (.cells #[.int .u8 (48 + (d : Int))] 5)).cell? ⟨w.heap.size, 0, none⟩ = _
    rw [c]
    simp only [List.getElem_cons_zero, UInt8.toNat_ofNat']
    congr 2
    omega)
  exact this

set_option maxRecDepth 100000 in
set_option maxHeartbeats 2000000 in
theorem specDec_any (N : Nat) (hN : N ≤ 9223372036854775807) (w : World) :
    Calls Tryd.prog 29 #[.int .i64 (N : Int)] w fun e w' => e = .returned (.string ⟨(Lib.decDigits N).toArray⟩) ∧ Below w.heap.size w w' := by
  by_cases h0 : N = 0
  · subst h0
    have HD : Hid (Lib.decDigits 0 = [48]) := Lib.hid (by rw [Lib.decDigits_one (by omega)]; rfl)
    go_enter Tryd.func29, Tryd.ntmps29
    go_wp2
    go_ret
    exact ⟨by rw [HD.out]; rfl, Below.refl _ _⟩
  have q0 : ((N : Int) == 0) = false := by rw [beq_eq_false_iff_ne]; omega
  have q1 : decide ((N : Int) < 0) = false := decide_eq_false (by omega)
  have HS : Hid (DecAt N N []) := Lib.hid (by unfold DecAt; rw [if_neg h0]; simp)
  go_enter Tryd.func29, Tryd.ntmps29
  go_wp2
  go_loopw [0, 4] (fun n o wr => ∃ (m : Nat) (l : List UInt8), m ≤ 9223372036854775807 ∧ n = .int .i64 (m : Int) ∧ o = .string ⟨l.toArray⟩ ∧ DecAt N m l ∧ Below w.heap.size w wr) (fun n _ _ => (intOf n).toNat)
  case atStart => exact ⟨N, [], hN, rfl, rfl, HS.out, Below.refl _ _⟩
  case round =>
    obtain ⟨m, l, hm, rfl, rfl, hd, hbw⟩ := hrel
    have hl := hd.len hN
    have hsw := hbw.size
    have HD := Lib.hid hd
    clear hd
    by_cases hz : m = 0
    · subst hz
      have HE : Hid (l = Lib.decDigits N) := Lib.hid (by have := HD.out; unfold DecAt at this; rw [if_pos rfl] at this; exact this)
      go_wp2
      go_ret
      exact ⟨by rw [← HE.out]; rfl, hbw⟩
    · have q2 : ((m : Int) != 0) = true := by rw [bne_iff_ne]; omega
      have q3 : decide ((m : Int) % 10 < 0) = false := decide_eq_false (by omega)
      have hcv := convD_one wr (m % 10) (by omega)
      have e1 : ((m % 10 : Nat) : Int) = (m : Int) % 10 := by omega
      rw [e1] at hcv
      have hsz : (⟨l.toArray⟩ : ByteArray).size = l.length := by simp [ByteArray.size]
      have HSZ := Lib.hid hsz
      have hl2 : (⟨l.toArray⟩ : ByteArray).size ≤ 21 := by omega
      have HN := Lib.hid (HD.out.step (by omega))
      clear hsz e1
      have HB := Lib.hid (hbw.alloc hsw (.cells #[.int .u8 (48 + (m : Int) % 10)] 5))
      go_wp2
      refine ⟨⟨m / 10, UInt8.ofNat (48 + m % 10) :: l, by omega, by simp, ?_, HN.out, HB.out⟩, ?_⟩
      · congr 1
        apply ByteArray.ext
        rw [ByteArray.data_append]
        simp
      · simp [intOf]
        omega
end Go.Proofs.YtbaofldcdcllfaaDoor

/- The text of a term, as data. No program stands in this text. -/
namespace Go.Proofs.YtbaofldcdcllfaaDoor
open Go.RowKit

/-- a number from 0 on in digits -/
def decT (n : Int) : List UInt8 := Lib.decDigits n.toNat
theorem decT_len {n : Int} (h : n ≤ 9223372036854775807) : (decT n).length ≤ 21 := dec_len (by omega)
mutual
/-- the text of a term -/
def textM : TermD → List UInt8
  | .node k n ks => if k = 1 then 40 :: decT n ++ blanksM ks ++ [41] else if k = 2 then 36 :: decT n else if k = 3 then [91, 93] else 60 :: joinsM ks ++ [62]
/-- a blank and its text, of each -/
def blanksM : List TermD → List UInt8
  | [] => []
  | t :: ts => (32 :: textM t) ++ blanksM ts
/-- their texts, with a blank between -/
def joinsM : List TermD → List UInt8
  | [] => []
  | t :: ts => textM t ++ blanksM ts
end
theorem textM_node {t : TermD} (h : t.kind = 1) : textM t = 40 :: decT t.num ++ blanksM t.kids ++ [41] := by
  cases t with | node k n ks =>
  simp only [TermD.kind, TermD.num, TermD.kids] at h ⊢
  unfold textM; rw [if_pos h]
theorem textM_var {t : TermD} (h : t.kind = 2) : textM t = 36 :: decT t.num := by
  cases t with | node k n ks =>
  simp only [TermD.kind, TermD.num] at h ⊢
  unfold textM; rw [if_neg (by omega), if_pos h]
theorem textM_box {t : TermD} (h : t.kind = 3) : textM t = [91, 93] := by
  cases t with | node k n ks =>
  simp only [TermD.kind] at h ⊢
  unfold textM; rw [if_neg (by omega), if_neg (by omega), if_pos h]
theorem textM_plug {t : TermD} (h : t.kind = 4) : textM t = 60 :: joinsM t.kids ++ [62] := by
  cases t with | node k n ks =>
  simp only [TermD.kind, TermD.kids] at h ⊢
  unfold textM; rw [if_neg (by omega), if_neg (by omega), if_neg (by omega)]
theorem blanksM_append (a b : List TermD) : blanksM (a ++ b) = blanksM a ++ blanksM b := by
  induction a with
  | nil => simp [blanksM]
  | cons t ts ih => simp [blanksM, ih, List.append_assoc]
theorem blanksM_take (ts : List TermD) (k : Nat) (h : k < ts.length) : blanksM (ts.take (k + 1)) = blanksM (ts.take k) ++ [32] ++ textM ts[k] := by
  rw [List.take_succ_eq_append_getElem h, blanksM_append]; simp [blanksM]
theorem joinsM_take0 (ts : List TermD) (h : 0 < ts.length) : joinsM (ts.take 1) = textM ts[0] := by
  cases ts with
  | nil => simp at h
  | cons t ts => simp [joinsM, blanksM]
theorem joinsM_take (ts : List TermD) (k : Nat) (h : k < ts.length) (hk : 0 < k) : joinsM (ts.take (k + 1)) = joinsM (ts.take k) ++ [32] ++ textM ts[k] := by
  cases ts with
  | nil => simp at h
  | cons t ts =>
    obtain ⟨j, rfl⟩ : ∃ j, k = j + 1 := ⟨k - 1, by omega⟩
    simp only [List.take_succ_cons, joinsM, List.getElem_cons_succ]
    rw [blanksM_take ts j (by simpa using h)]
    simp [List.append_assoc]
mutual
/-- all numbers of it are whole numbers that fit in -/
def fitsM : TermD → Prop
  | .node _ n ks => n ≤ 9223372036854775807 ∧ fitsMs ks
def fitsMs : List TermD → Prop
  | [] => True
  | t :: ts => fitsM t ∧ fitsMs ts
end
theorem fitsM_eq (t : TermD) : fitsM t ↔ t.num ≤ 9223372036854775807 ∧ fitsMs t.kids := by cases t; simp [fitsM, TermD.num, TermD.kids]
theorem fitsMs_of {ts : List TermD} (h : ∀ i (h : i < ts.length), fitsM ts[i]) : fitsMs ts := by
  induction ts with
  | nil => trivial
  | cons t ts ih => exact ⟨h 0 (by simp), ih fun i hi => h (i + 1) (by simp; omega)⟩
theorem KM.fits {z : Bool} {w : World} {lo hi : Nat} {v : Value} {ts : List TermD} (h : KM z w lo hi v ts) : fitsMs ts := by
  induction h with
  | mk A c ts U hl hc hs hcell sub ih => exact fitsMs_of fun i hi => (fitsM_eq _).2 ⟨(hs i hi).1.2, ih i hi⟩
mutual
theorem textM_len : (t : TermD) → fitsM t → (textM t).length + 1 ≤ 24 * sizeM t
  | .node k n ks => by
    intro hf
    unfold textM sizeM
    unfold fitsM at hf
    have h1 := blanksM_len ks hf.2
    have h2 := joinsM_len ks hf.2
    have h3 := decT_len hf.1
    split
    · simp only [List.length_append, List.length_cons, List.length_nil]; omega
    · split
      · simp only [List.length_cons]; omega
      · split
        · simp only [List.length_cons, List.length_nil]; omega
        · simp only [List.length_append, List.length_cons, List.length_nil]; omega
theorem blanksM_len : (ts : List TermD) → fitsMs ts → (blanksM ts).length ≤ 24 * sizeMs ts
  | [] => by intro _; simp [blanksM]
  | t :: ts => by
    intro hf
    unfold fitsMs at hf
    unfold blanksM sizeMs
    have h1 := textM_len t hf.1
    have h2 := blanksM_len ts hf.2
    simp only [List.length_append, List.length_cons]
    omega
theorem joinsM_len : (ts : List TermD) → fitsMs ts → (joinsM ts).length ≤ 24 * sizeMs ts
  | [] => by intro _; simp [joinsM]
  | t :: ts => by
    intro hf
    unfold fitsMs at hf
    unfold joinsM sizeMs
    have h1 := textM_len t hf.1
    have h2 := blanksM_len ts hf.2
    simp only [List.length_append]
    omega
end
/-- what is told of k of the Kids -/
def kidT (t : TermD) (k : Nat) : List UInt8 := if t.kind = 1 then blanksM (t.kids.take k) else joinsM (t.kids.take k)
theorem kidT_zero (t : TermD) : kidT t 0 = [] := by unfold kidT; simp [blanksM, joinsM]
theorem kidT_blank (t : TermD) (k : Nat) (h : k < t.kids.length) (hk : 0 < k ∨ t.kind = 1) : kidT t (k + 1) = kidT t k ++ [32] ++ textM t.kids[k] := by
  unfold kidT
  split
  · exact blanksM_take _ _ h
  · exact joinsM_take _ _ h (by omega)
theorem kidT_bare (t : TermD) (h : 0 < t.kids.length) (hk : t.kind ≠ 1) : kidT t 1 = textM t.kids[0] := by
  unfold kidT
  rw [if_neg hk]
  exact joinsM_take0 _ h
theorem fitsMs_take {ts : List TermD} (h : fitsMs ts) (k : Nat) : fitsMs (ts.take k) := by
  induction ts generalizing k with
  | nil => simp [fitsMs]
  | cons t ts ih =>
    cases k with
    | zero => simp [fitsMs]
    | succ k => exact ⟨h.1, ih h.2 k⟩
theorem kidT_len (t : TermD) (k : Nat) (h : fitsMs t.kids) : (kidT t k).length ≤ 24 * sizeMs t.kids := by
  have h1 := sizeMs_take_le t.kids k
  unfold kidT
  split
  · have := blanksM_len _ (fitsMs_take h k); omega
  · have := joinsM_len _ (fitsMs_take h k); omega
/-- the parts of what is right -/
theorem partM_parts {d : Nat} {t : TermD} (h : partM d t = true) : ∃ d', d = d' + 1 ∧ fieldB t = true ∧ ∀ i (h : i < t.kids.length), partM d' t.kids[i] = true := by
  cases d with
  | zero => cases h
  | succ d =>
    rw [partM_succ, Bool.and_eq_true, List.all_eq_true] at h
    exact ⟨d, rfl, h.1, fun i hi => h.2 _ (List.getElem_mem hi)⟩
theorem field_kind {t : TermD} (h : fieldB t = true) : (t.kind = 1 ∧ 0 ≤ t.num) ∨ (t.kind = 2 ∧ 0 ≤ t.num ∧ t.kids.length = 0) ∨ (t.kind = 3 ∧ t.kids.length = 0) ∨ (t.kind = 4 ∧ t.kids.length = 2) := by
  unfold fieldB at h
  split at h
  · rw [decide_eq_true_eq] at h; omega
  · split at h
    · rw [Bool.and_eq_true, decide_eq_true_eq, decide_eq_true_eq] at h; omega
    · split at h
      · rw [Bool.and_eq_true, decide_eq_true_eq, decide_eq_true_eq] at h; omega
      · split at h
        · rw [Bool.and_eq_true, decide_eq_true_eq, decide_eq_true_eq] at h; omega
        · cases h
/-- TermText, as data -/
def termT (t : TermD) : List UInt8 := if termB t = true then textM t else []
end Go.Proofs.YtbaofldcdcllfaaDoor
