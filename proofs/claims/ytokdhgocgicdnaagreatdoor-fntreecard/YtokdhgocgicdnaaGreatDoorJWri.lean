import Derived.Test.YtokdhgocgicdnaaGreatDoorSsb
import Derived.Test.YtokdhgocgicdnaaGreatDoorJTre
import Derived.Lib.ItoaNum
import Derived.Lib.ItoaLen
import Derived.Laws.IdiomStrings
import Derived.WalkKit
import Derived.WalkSpells
import Derived.WalkLawsBesides
import Derived.Test.YtokdhgocgicdnaaGreatDoorJEq
import Derived.Test.YtokdhgocgicdnaaGreatDoorJSsy
import Derived.Shelf.Strings.BuilderF
import Derived.Shelf.Strings.BuilderK
import Derived.Test.YtokdhgocgicdnaaGreatDoorShelf
import Derived.Lib.OthersKept
/- Does a tree say a text? The model: spec.Says, whole. -/
namespace Go.Proofs.YtokdhgocgicdnaaGreatDoor
open Go.RowKit

theorem specSays_any (rs : List RuleD) (ws : List ByteArray) (t : TreeD) (v tv u : Value) (lo hi lo2 hi2 lo3 hi3 : Nat) (w : World) (hr : Rules w lo2 hi2 v rs) (hw : Strs w lo3 hi3 tv ws) (ht : TopOk t) (hk : Kd true w lo hi u t.kids) (hh : hi ≤ w.heap.size) (hh2 : hi2 ≤ w.heap.size) (hh3 : hi3 ≤ w.heap.size) (hb : bulkT t ≤ 1048576) :
    Calls Tryz.prog 9 #[.agg #[v], tv, trV t u] w fun e w' => e = .returned (.bool (saysB rs ws t)) ∧ Below w.heap.size w w' := by
  by_cases h : ws.length ≤ 400 ∧ rightB rs t = true ∧ 0 ≤ t.rule
  · exact specSays_node rs ws t v tv u lo hi lo2 hi2 lo3 hi3 w hr hw ht hk hh hh2 hh3 hb h.1 h.2.1 h.2.2
  · exact specSays_no rs ws t v tv u lo hi lo2 hi2 lo3 hi3 w hr hw ht hk hh hh2 hh3 hb h
end Go.Proofs.YtokdhgocgicdnaaGreatDoor

/- The text of a tree, as data. No program stands in this text. -/
namespace Go.Proofs.YtokdhgocgicdnaaGreatDoor
open Go.RowKit

/-- a Rule in digits; of one below 0 '-' -/
def ruleT (r : Int) : List UInt8 := if r < 0 then [45] else Lib.decDigits r.toNat
mutual
/-- the text of a tree -/
def textOf : TreeD → List UInt8
  | .node r s ks => if s.size ≠ 0 ∧ ks = [] then s.data.toList else 40 :: ruleT r ++ textsOf ks ++ [41]
/-- a blank and its text, of each -/
def textsOf : List TreeD → List UInt8
  | [] => []
  | t :: ts => (32 :: textOf t) ++ textsOf ts
end
theorem textOf_leaf {t : TreeD} (h1 : t.tok.size ≠ 0) (h2 : t.kids.length = 0) : textOf t = t.tok.data.toList := by
  cases t with | node r s ks =>
  simp only [TreeD.kids, TreeD.tok] at h1 h2 ⊢
  unfold textOf
  rw [if_pos ⟨h1, List.length_eq_zero_iff.1 h2⟩]
theorem textOf_node {t : TreeD} (h : ¬ (t.tok.size ≠ 0 ∧ t.kids.length = 0)) : textOf t = 40 :: ruleT t.rule ++ textsOf t.kids ++ [41] := by
  cases t with | node r s ks =>
  simp only [TreeD.kids, TreeD.tok, TreeD.rule] at h ⊢
  unfold textOf
  rw [if_neg (fun e => h ⟨e.1, by rw [e.2]; rfl⟩)]
theorem textsOf_append (a b : List TreeD) : textsOf (a ++ b) = textsOf a ++ textsOf b := by
  induction a with
  | nil => simp [textsOf]
  | cons t ts ih => simp [textsOf, ih, List.append_assoc]
theorem textsOf_take (ts : List TreeD) (k : Nat) (h : k < ts.length) : textsOf (ts.take (k + 1)) = textsOf (ts.take k) ++ 32 :: textOf ts[k] := by
  rw [List.take_succ_eq_append_getElem h, textsOf_append]; simp [textsOf]
theorem textsOf_take_le (ts : List TreeD) (k : Nat) : (textsOf (ts.take k)).length ≤ (textsOf ts).length := by
  conv => rhs; rw [← List.take_append_drop k ts]
  rw [textsOf_append, List.length_append]; omega
theorem ruleT_len (r : Int) (h : r ≤ 9223372036854775807) : (ruleT r).length ≤ 21 := by
  unfold ruleT
  split
  · simp
  · have := Lib.itoa_length_le r (by omega) h
    unfold Lib.itoa at this
    rw [if_neg (by assumption)] at this
    exact this
mutual
/-- all numbers of it are whole numbers that fit in -/
def fitsT : TreeD → Prop
  | .node r _ ks => r ≤ 9223372036854775807 ∧ fitsTs ks
def fitsTs : List TreeD → Prop
  | [] => True
  | t :: ts => fitsT t ∧ fitsTs ts
end
theorem fitsT_eq (t : TreeD) : fitsT t ↔ t.rule ≤ 9223372036854775807 ∧ fitsTs t.kids := by cases t; simp [fitsT, TreeD.rule, TreeD.kids]
theorem fitsTs_of {ts : List TreeD} (h : ∀ i (h : i < ts.length), fitsT ts[i]) : fitsTs ts := by
  induction ts with
  | nil => trivial
  | cons t ts ih => exact ⟨h 0 (by simp), ih fun i hi => h (i + 1) (by simp; omega)⟩
theorem fitsTs_at {ts : List TreeD} (h : fitsTs ts) (i : Nat) (hi : i < ts.length) : fitsT ts[i] := by
  induction ts generalizing i with
  | nil => simp at hi
  | cons t ts ih =>
    cases i with
    | zero => exact h.1
    | succ i => exact ih h.2 i (by simpa using hi)
theorem Kd.fits {z : Bool} {w : World} {lo hi : Nat} {v : Value} {ts : List TreeD} (h : Kd z w lo hi v ts) : fitsTs ts := by
  induction h with
  | mk A c ts U hl hc hs hcell sub ih => exact fitsTs_of fun i hi => (fitsT_eq _).2 ⟨(hs i hi).2.2, ih i hi⟩
mutual
theorem textOf_len : (t : TreeD) → fitsT t → (textOf t).length ≤ bulkT t + 24 * sizeT t
  | .node r s ks => by
    intro hf
    unfold textOf bulkT sizeT
    unfold fitsT at hf
    have h1 := textsOf_len ks hf.2
    have h2 := ruleT_len r hf.1
    split
    · rw [Array.length_toList]
      have : s.data.size = s.size := rfl
      omega
    · simp only [List.length_append, List.length_cons, List.length_nil]
      omega
theorem textsOf_len : (ts : List TreeD) → fitsTs ts → (textsOf ts).length ≤ bulkTs ts + 24 * sizeTs ts
  | [] => by intro _; simp [textsOf]
  | t :: ts => by
    intro hf
    unfold fitsTs at hf
    unfold textsOf bulkTs sizeTs
    have h1 := textOf_len t hf.1
    have h2 := textsOf_len ts hf.2
    simp only [List.length_append, List.length_cons]
    omega
end
end Go.Proofs.YtokdhgocgicdnaaGreatDoor

/- A number in digits: the model's l01Dec. -/
namespace Go.Proofs.YtokdhgocgicdnaaGreatDoor
open Go.RowKit

theorem dec_more {m : Nat} (h : 10 ≤ m) : Lib.decDigits m = Lib.decDigits (m / 10) ++ [UInt8.ofNat (48 + m % 10)] := by
  conv => lhs; rw [Lib.decDigits]
  rw [dif_neg (by omega)]
theorem dec_one {m : Nat} (h : m < 10) : Lib.decDigits m = [UInt8.ofNat (48 + m % 10)] := by
  rw [Lib.decDigits_one h, Nat.mod_eq_of_lt h]
/-- what is told so far, and what is left to tell, are the number -/
def DecAt (N m : Nat) (o : List UInt8) : Prop := (if m = 0 then o else Lib.decDigits m ++ o) = Lib.decDigits N
theorem DecAt.step {N m : Nat} {o : List UInt8} (h : DecAt N m o) (hm : 0 < m) : DecAt N (m / 10) (UInt8.ofNat (48 + m % 10) :: o) := by
  unfold DecAt at h ⊢
  rw [if_neg (by omega)] at h
  rw [← h]
  by_cases h1 : m < 10
  · rw [if_pos (by omega), dec_one h1]; rfl
  · have e := dec_more (m := m) (by omega)
    rw [if_neg (by omega), e, List.append_assoc]; rfl
theorem DecAt.len {N m : Nat} {o : List UInt8} (h : DecAt N m o) (hN : N ≤ 9223372036854775807) : o.length ≤ 21 := by
  have h1 := Lib.itoa_length_le (N : Int) (by omega) (by omega)
  unfold Lib.itoa at h1
  rw [if_neg (by omega), Int.toNat_natCast, ← h] at h1
  split at h1
  · exact h1
  · rw [List.length_append] at h1; omega
theorem dec_len {N : Nat} (hN : N ≤ 9223372036854775807) : (Lib.decDigits N).length ≤ 21 := by
  have h1 := Lib.itoa_length_le (N : Int) (by omega) (by omega)
  unfold Lib.itoa at h1
  rw [if_neg (by omega), Int.toNat_natCast] at h1
  exact h1
theorem convD_one (w : World) (d : Nat) (hd : d < 10) :
    (convert 22 9 (.slice (some ⟨w.heap.size, 0, none⟩) 1 1)).run Tryz.prog (w.alloc (.cells #[.int .u8 (48 + (d : Int))] 5)) = .ok (.string ⟨#[UInt8.ofNat (48 + d)]⟩) (w.alloc (.cells #[.int .u8 (48 + (d : Int))] 5)) := by
  have R := Row.made w 5 #[.int .u8 (48 + (d : Int))]
  have := run_convert_bytes_back (P := Tryz.prog) (w.alloc (.cells #[.int .u8 (48 + (d : Int))] 5)) 22 9 5 ⟨w.heap.size, 0, none⟩ 1 [UInt8.ofNat (48 + d)] Tryz.underlying22 Tryz.underlying5 Tryz.underlying9 (fun j hj => by
    obtain rfl : j = 0 := by simp at hj; omega
    have c : (w.alloc (.cells #[.int .u8 (48 + (d : Int))] 5)).cell? ⟨w.heap.size, 0, none⟩ = some (.int .u8 (48 + (d : Int))) := (R.cell 0).trans rfl
    show (w.alloc (.cells #[.int .u8 (48 + (d : Int))] 5)).cell? ⟨w.heap.size, 0, none⟩ = _
    rw [c]
    simp only [List.getElem_cons_zero, UInt8.toNat_ofNat']
    congr 2
    omega)
  exact this

set_option maxRecDepth 100000 in
set_option maxHeartbeats 2000000 in
theorem specDec_any (N : Nat) (hN : N ≤ 9223372036854775807) (w : World) :
    Calls Tryz.prog 57 #[.int .i64 (N : Int)] w fun e w' => e = .returned (.string ⟨(Lib.decDigits N).toArray⟩) ∧ Below w.heap.size w w' := by
  by_cases h0 : N = 0
  · subst h0
    have HD : Hid (Lib.decDigits 0 = [48]) := Lib.hid (by rw [Lib.decDigits_one (by omega)]; rfl)
    go_enter Tryz.func57, Tryz.ntmps57
    go_wp2
    go_ret
    exact ⟨by rw [HD.out]; rfl, Below.refl _ _⟩
  have q0 : ((N : Int) == 0) = false := by rw [beq_eq_false_iff_ne]; omega
  have q1 : decide ((N : Int) < 0) = false := decide_eq_false (by omega)
  have HS : Hid (DecAt N N []) := Lib.hid (by unfold DecAt; rw [if_neg h0]; simp)
  go_enter Tryz.func57, Tryz.ntmps57
  go_wp2
  go_loopw [0, 4] (fun n o wr => ∃ (m : Nat) (l : List UInt8), m ≤ 9223372036854775807 ∧ n = .int .i64 (m : Int) ∧ o = .string ⟨l.toArray⟩ ∧ DecAt N m l ∧ Below w.heap.size w wr) (fun n _ _ => (intOf n).toNat)
  case atStart => exact ⟨N, [], hN, rfl, rfl, HS.out, Below.refl _ _⟩
  case round =>
    obtain ⟨m, l, hm, rfl, rfl, hd, hbw⟩ := hrel
    have hl := hd.len hN
    have hsw := hbw.size
    have HD := Lib.hid hd
    clear hd
    by_cases hz : m = 0
    · subst hz
      have HE : Hid (l = Lib.decDigits N) := Lib.hid (by have := HD.out; unfold DecAt at this; rw [if_pos rfl] at this; exact this)
      go_wp2
      go_ret
      exact ⟨by rw [← HE.out]; rfl, hbw⟩
    · have q2 : ((m : Int) != 0) = true := by rw [bne_iff_ne]; omega
      have q3 : decide ((m : Int) % 10 < 0) = false := decide_eq_false (by omega)
      have hcv := convD_one wr (m % 10) (by omega)
      have e1 : ((m % 10 : Nat) : Int) = (m : Int) % 10 := by omega
      rw [e1] at hcv
      have hsz : (⟨l.toArray⟩ : ByteArray).size = l.length := by simp [ByteArray.size]
      have HSZ := Lib.hid hsz
      have hl2 : (⟨l.toArray⟩ : ByteArray).size ≤ 21 := by omega
      have HN := Lib.hid (HD.out.step (by omega))
      clear hsz e1
      have HB := Lib.hid (hbw.alloc hsw (.cells #[.int .u8 (48 + (m : Int) % 10)] 5))
      go_wp2
      refine ⟨⟨m / 10, UInt8.ofNat (48 + m % 10) :: l, by omega, by simp, ?_, HN.out, HB.out⟩, ?_⟩
      · congr 1
        apply ByteArray.ext
        rw [ByteArray.data_append]
        simp
      · simp [intOf]
        omega
end Go.Proofs.YtokdhgocgicdnaaGreatDoor

/- The text of a tree: the model's l05Text, TreeText. -/
namespace Go.Proofs.YtokdhgocgicdnaaGreatDoor
open Go.RowKit

/-- bytes as a text -/
def tb (l : List UInt8) : ByteArray := ⟨l.toArray⟩
theorem tb_size (l : List UInt8) : (tb l).size = l.length := by simp [tb, ByteArray.size]
theorem tb_app (a b : List UInt8) : tb a ++ tb b = tb (a ++ b) := by
  apply ByteArray.ext
  rw [ByteArray.data_append]
  simp [tb]
theorem tb_of (s : ByteArray) : tb s.data.toList = s := by
  apply ByteArray.ext
  simp [tb]
theorem ret_tb {a b : ByteArray} (h : a = b) : Ending.returned (.string a) = .returned (.string b) := by rw [h]
/-- a tree's text, but for its end, when k of its Kids are told -/
def partT (t : TreeD) (k : Nat) : List UInt8 := 40 :: ruleT t.rule ++ textsOf (t.kids.take k)
theorem partT_zero (t : TreeD) : partT t 0 = 40 :: ruleT t.rule := by simp [partT, textsOf]
theorem partT_succ (t : TreeD) (k : Nat) (h : k < t.kids.length) : partT t (k + 1) = partT t k ++ [32] ++ textOf t.kids[k] := by
  unfold partT; rw [textsOf_take _ _ h]; simp
theorem partT_all (t : TreeD) (h : ¬ (t.tok.size ≠ 0 ∧ t.kids.length = 0)) : partT t t.kids.length ++ [41] = textOf t := by
  unfold partT; rw [List.take_length, textOf_node h]
theorem partT_len (t : TreeD) (k : Nat) (h : ¬ (t.tok.size ≠ 0 ∧ t.kids.length = 0)) : (partT t k).length + 1 ≤ (textOf t).length := by
  rw [← partT_all t h, List.length_append]
  unfold partT
  have := textsOf_take_le t.kids k
  rw [List.take_length]
  simp only [List.length_append, List.length_cons, List.length_nil]
  omega
theorem partT_len2 (t : TreeD) (k : Nat) (hk : k < t.kids.length) (h : ¬ (t.tok.size ≠ 0 ∧ t.kids.length = 0)) : (partT t k).length + 1 + (textOf t.kids[k]).length + 1 ≤ (textOf t).length := by
  have := partT_len t (k + 1) h
  rw [partT_succ t k hk] at this
  simp only [List.length_append, List.length_cons, List.length_nil] at this
  omega

def SpX (t : TreeD) : Prop := ∀ (z : Bool) (u : Value) (lo hi : Nat) (w : World), Kd z w lo hi u t.kids → hi ≤ w.heap.size → TopOk t → (textOf t).length ≤ 1000000000 →
  Calls Tryz.prog 38 #[trV t u] w fun e w' => e = .returned (.string (tb (textOf t))) ∧ Below w.heap.size w w'

set_option maxRecDepth 100000 in
set_option maxHeartbeats 2000000 in
theorem specText5_of (t : TreeD) (ih : ∀ i (h : i < t.kids.length), SpX t.kids[i]) : SpX t := by
  intro z u lo hi w h hhi htop hn
  obtain ⟨A, c, U, rfl, hlc, hc, hs, hcell, hsub⟩ := h.parts
  unfold maxLen at hc
  have HC := Lib.hid hcell
  have HB := Lib.hid hsub
  have HS := Lib.hid hs
  obtain ⟨ht1, ht2, ht3⟩ := htop
  clear hcell hsub h hs
  unfold trV
  have hb0 := al1 w (.cells #[.int .i64 t.rule, .string t.tok, .slice A t.kids.length c] 29)
  have R0 := Row.made w 29 #[.int .i64 t.rule, .string t.tok, .slice A t.kids.length c]
  by_cases hlf : t.tok.size ≠ 0 ∧ t.kids.length = 0
  · have e1 : (t.tok.toList == []) = false := by rw [toks_empty, decide_eq_false hlf.1]
    have e2 : ((t.kids.length : Int) == 0) = true := by rw [hlf.2]; rfl
    have HE := Lib.hid (textOf_leaf hlf.1 hlf.2)
    clear hlf
    go_enter Tryz.func38, Tryz.ntmps38
    go_wp2
    go_ret
    exact ⟨ret_tb (by rw [HE.out, tb_of]), hb0⟩
  have HLF := Lib.hid hlf
  have e0 : (t.tok.toList == []) = false → ((t.kids.length : Int) == 0) = false := by
    intro e
    rw [toks_empty, decide_eq_false_iff_not] at e
    rw [beq_eq_false_iff_ne]
    intro e2
    exact hlf ⟨e, by omega⟩
  have hp0 := partT_len t 0 hlf
  clear hlf
  by_cases hr : t.rule < 0
  · have q1 : decide (t.rule ≥ 0) = false := decide_eq_false (by omega)
    have HP : Hid (tb (partT t 0) = ⟨#[40, 45]⟩) := Lib.hid (by rw [partT_zero]; unfold ruleT; rw [if_pos hr]; rfl)
    by_cases h1 : t.tok.size = 0
    · have e1 : (t.tok.toList == []) = true := by rw [toks_empty, decide_eq_true h1]
      clear e0 hr
      go_enter Tryz.func38, Tryz.ntmps38
      go_wp2
      generalize w.alloc (.cells #[.int .i64 t.rule, .string t.tok, .slice A t.kids.length c] 29) = w0 at hb0 R0 ⊢
      go_loopw [3, 4] (fun o i wr => ∃ k : Nat, k ≤ t.kids.length ∧ i = .int .i64 k ∧ o = .string (tb (partT t k)) ∧ Below w0.heap.size w0 wr) (fun _ i _ => t.kids.length - (intOf i).toNat)
      case atStart => exact ⟨0, by omega, rfl, by rw [HP.out], Below.refl _ _⟩
      case round =>
        obtain ⟨k, hk, rfl, rfl, hbw⟩ := hrel
        have hsw := hbw.size
        have hws := hb0.size
        have R1 := R0.below hbw R0.lt
        have hlt0 := R1.lt
        have c2 := R1.cell 2
        simp at c2
        have hpl := partT_len t k HLF.out
        have hpz := tb_size (partT t k)
        have hpz2 : (tb (partT t k)).size ≤ 1000000000 := by omega
        clear hpz
        by_cases hlt : k < t.kids.length
        · obtain ⟨b, off, rfl, _, hbh, _, hcc⟩ := HC.out (by omega)
          obtain ⟨hc0, hc1, hc2⟩ := hcc k hlt
          have hbx := hb0.trans (hbw.mono hws)
          have k0 := (hbx.cell (p := ⟨b, off + k * 3, none⟩) (by show b < _; omega)).trans hc0
          have k1 := (hbx.cell (p := ⟨b, off + k * 3 + 1, none⟩) (by show b < _; omega)).trans hc1
          have k2 := (hbx.cell (p := ⟨b, off + k * 3 + 2, none⟩) (by show b < _; omega)).trans hc2
          have hst' := (HB.out k hlt).under hbx hhi
          have hl2 := partT_len2 t k hlt HLF.out
          have HT := Lib.hid (partT_succ t k hlt)
          have hkz := tb_size (textOf t.kids[k])
          have hkz2 : (tb (textOf t.kids[k])).size ≤ 1000000000 := by omega
          have HSZ : Hid ((tb (partT t k)).size + 1 + (tb (textOf t.kids[k])).size ≤ 1000000000) := Lib.hid (by have := tb_size (partT t k); omega)
          have htk : TopOk t.kids[k] := HS.out k hlt
          clear hcc hc0 hc1 hc2 R1 hkz
          go_wp2_with fail
          refine (ih k hlt z (U k) lo hi _ hst' (by omega) htk (by omega)).mono ?_
          rintro e w1 ⟨rfl, hb1⟩
          have hs3 : (tb (partT t k) ++ (⟨#[32]⟩ : ByteArray)).size ≤ 1000000001 := by rw [ByteArray.size_append]; have := hpz2; show _ + 1 ≤ _; omega
          go_wp2
          go_roundw
          case rel => exact ⟨k + 1, by omega, by go_num, by rw [HT.out, ← tb_app, ← tb_app]; rfl, hbw.trans (hb1.mono hsw)⟩
          case measure => simp [intOf]; omega
        · have hks : k = t.kids.length := by omega
          have HK := Lib.hid hks
          clear hks R1
          go_wp2
          go_ret
          refine ⟨ret_tb ?_, hb0.trans (hbw.mono hws)⟩
          have e := HK.out
          subst e
          rw [← partT_all t HLF.out, ← tb_app]
          rfl
    · have e1 : (t.tok.toList == []) = false := by rw [toks_empty, decide_eq_false h1]
      have e2 := e0 e1
      clear e0 hr
      go_enter Tryz.func38, Tryz.ntmps38
      go_wp2
      generalize w.alloc (.cells #[.int .i64 t.rule, .string t.tok, .slice A t.kids.length c] 29) = w0 at hb0 R0 ⊢
      go_loopw [3, 4] (fun o i wr => ∃ k : Nat, k ≤ t.kids.length ∧ i = .int .i64 k ∧ o = .string (tb (partT t k)) ∧ Below w0.heap.size w0 wr) (fun _ i _ => t.kids.length - (intOf i).toNat)
      case atStart => exact ⟨0, by omega, rfl, by rw [HP.out], Below.refl _ _⟩
      case round =>
        obtain ⟨k, hk, rfl, rfl, hbw⟩ := hrel
        have hsw := hbw.size
        have hws := hb0.size
        have R1 := R0.below hbw R0.lt
        have hlt0 := R1.lt
        have c2 := R1.cell 2
        simp at c2
        have hpl := partT_len t k HLF.out
        have hpz := tb_size (partT t k)
        have hpz2 : (tb (partT t k)).size ≤ 1000000000 := by omega
        clear hpz
        by_cases hlt : k < t.kids.length
        · obtain ⟨b, off, rfl, _, hbh, _, hcc⟩ := HC.out (by omega)
          obtain ⟨hc0, hc1, hc2⟩ := hcc k hlt
          have hbx := hb0.trans (hbw.mono hws)
          have k0 := (hbx.cell (p := ⟨b, off + k * 3, none⟩) (by show b < _; omega)).trans hc0
          have k1 := (hbx.cell (p := ⟨b, off + k * 3 + 1, none⟩) (by show b < _; omega)).trans hc1
          have k2 := (hbx.cell (p := ⟨b, off + k * 3 + 2, none⟩) (by show b < _; omega)).trans hc2
          have hst' := (HB.out k hlt).under hbx hhi
          have hl2 := partT_len2 t k hlt HLF.out
          have HT := Lib.hid (partT_succ t k hlt)
          have hkz := tb_size (textOf t.kids[k])
          have hkz2 : (tb (textOf t.kids[k])).size ≤ 1000000000 := by omega
          have HSZ : Hid ((tb (partT t k)).size + 1 + (tb (textOf t.kids[k])).size ≤ 1000000000) := Lib.hid (by have := tb_size (partT t k); omega)
          have htk : TopOk t.kids[k] := HS.out k hlt
          clear hcc hc0 hc1 hc2 R1 hkz
          go_wp2_with fail
          refine (ih k hlt z (U k) lo hi _ hst' (by omega) htk (by omega)).mono ?_
          rintro e w1 ⟨rfl, hb1⟩
          have hs3 : (tb (partT t k) ++ (⟨#[32]⟩ : ByteArray)).size ≤ 1000000001 := by rw [ByteArray.size_append]; have := hpz2; show _ + 1 ≤ _; omega
          go_wp2
          go_roundw
          case rel => exact ⟨k + 1, by omega, by go_num, by rw [HT.out, ← tb_app, ← tb_app]; rfl, hbw.trans (hb1.mono hsw)⟩
          case measure => simp [intOf]; omega
        · have hks : k = t.kids.length := by omega
          have HK := Lib.hid hks
          clear hks R1
          go_wp2
          go_ret
          refine ⟨ret_tb ?_, hb0.trans (hbw.mono hws)⟩
          have e := HK.out
          subst e
          rw [← partT_all t HLF.out, ← tb_app]
          rfl
  · obtain ⟨n, hrn⟩ := Int.eq_ofNat_of_zero_le (show 0 ≤ t.rule by omega)
    rw [hrn] at ht2 ht3 R0 hb0 ⊢
    have q1 : decide ((n : Int) ≥ 0) = true := decide_eq_true (by omega)
    have HP : Hid (tb (partT t 0) = (⟨#[40]⟩ : ByteArray) ++ ⟨(Lib.decDigits n).toArray⟩) := Lib.hid (by
      rw [partT_zero]; unfold ruleT; rw [if_neg hr, hrn, Int.toNat_natCast]
      exact (tb_app [40] (Lib.decDigits n)).symm)
    clear hr hrn
    by_cases h1 : t.tok.size = 0
    · have e1 : (t.tok.toList == []) = true := by rw [toks_empty, decide_eq_true h1]
      clear e0
      go_enter Tryz.func38, Tryz.ntmps38
      go_wp2_with fail
      refine (specDec_any n (by omega) _).mono ?_
      rintro e w0 ⟨rfl, b1⟩
      have hd := dec_len (N := n) (by omega)
      have hd2 : (⟨(Lib.decDigits n).toArray⟩ : ByteArray).size ≤ 21 := by simp [ByteArray.size]; exact hd
      have R9 := R0.below b1 R0.lt
      have hb9 := hb0.trans (b1.mono (by simp))
      clear R0 hb0 b1
      go_wp2
      have R0 := R9
      have hb0 := hb9
      clear R9 hb9
      go_loopw [3, 4] (fun o i wr => ∃ k : Nat, k ≤ t.kids.length ∧ i = .int .i64 k ∧ o = .string (tb (partT t k)) ∧ Below w0.heap.size w0 wr) (fun _ i _ => t.kids.length - (intOf i).toNat)
      case atStart => exact ⟨0, by omega, rfl, by rw [HP.out], Below.refl _ _⟩
      case round =>
        obtain ⟨k, hk, rfl, rfl, hbw⟩ := hrel
        have hsw := hbw.size
        have hws := hb0.size
        have R1 := R0.below hbw R0.lt
        have hlt0 := R1.lt
        have c2 := R1.cell 2
        simp at c2
        have hpl := partT_len t k HLF.out
        have hpz := tb_size (partT t k)
        have hpz2 : (tb (partT t k)).size ≤ 1000000000 := by omega
        clear hpz
        by_cases hlt : k < t.kids.length
        · obtain ⟨b, off, rfl, _, hbh, _, hcc⟩ := HC.out (by omega)
          obtain ⟨hc0, hc1, hc2⟩ := hcc k hlt
          have hbx := hb0.trans (hbw.mono hws)
          have k0 := (hbx.cell (p := ⟨b, off + k * 3, none⟩) (by show b < _; omega)).trans hc0
          have k1 := (hbx.cell (p := ⟨b, off + k * 3 + 1, none⟩) (by show b < _; omega)).trans hc1
          have k2 := (hbx.cell (p := ⟨b, off + k * 3 + 2, none⟩) (by show b < _; omega)).trans hc2
          have hst' := (HB.out k hlt).under hbx hhi
          have hl2 := partT_len2 t k hlt HLF.out
          have HT := Lib.hid (partT_succ t k hlt)
          have hkz := tb_size (textOf t.kids[k])
          have hkz2 : (tb (textOf t.kids[k])).size ≤ 1000000000 := by omega
          have HSZ : Hid ((tb (partT t k)).size + 1 + (tb (textOf t.kids[k])).size ≤ 1000000000) := Lib.hid (by have := tb_size (partT t k); omega)
          have htk : TopOk t.kids[k] := HS.out k hlt
          clear hcc hc0 hc1 hc2 R1 hkz
          go_wp2_with fail
          refine (ih k hlt z (U k) lo hi _ hst' (by omega) htk (by omega)).mono ?_
          rintro e w1 ⟨rfl, hb1⟩
          have hs3 : (tb (partT t k) ++ (⟨#[32]⟩ : ByteArray)).size ≤ 1000000001 := by rw [ByteArray.size_append]; have := hpz2; show _ + 1 ≤ _; omega
          go_wp2
          go_roundw
          case rel => exact ⟨k + 1, by omega, by go_num, by rw [HT.out, ← tb_app, ← tb_app]; rfl, hbw.trans (hb1.mono hsw)⟩
          case measure => simp [intOf]; omega
        · have hks : k = t.kids.length := by omega
          have HK := Lib.hid hks
          clear hks R1
          go_wp2
          go_ret
          refine ⟨ret_tb ?_, hb0.trans (hbw.mono hws)⟩
          have e := HK.out
          subst e
          rw [← partT_all t HLF.out, ← tb_app]
          rfl
    · have e1 : (t.tok.toList == []) = false := by rw [toks_empty, decide_eq_false h1]
      have e2 := e0 e1
      clear e0
      go_enter Tryz.func38, Tryz.ntmps38
      go_wp2_with fail
      refine (specDec_any n (by omega) _).mono ?_
      rintro e w0 ⟨rfl, b1⟩
      have hd := dec_len (N := n) (by omega)
      have hd2 : (⟨(Lib.decDigits n).toArray⟩ : ByteArray).size ≤ 21 := by simp [ByteArray.size]; exact hd
      have R9 := R0.below b1 R0.lt
      have hb9 := hb0.trans (b1.mono (by simp))
      clear R0 hb0 b1
      go_wp2
      have R0 := R9
      have hb0 := hb9
      clear R9 hb9
      go_loopw [3, 4] (fun o i wr => ∃ k : Nat, k ≤ t.kids.length ∧ i = .int .i64 k ∧ o = .string (tb (partT t k)) ∧ Below w0.heap.size w0 wr) (fun _ i _ => t.kids.length - (intOf i).toNat)
      case atStart => exact ⟨0, by omega, rfl, by rw [HP.out], Below.refl _ _⟩
      case round =>
        obtain ⟨k, hk, rfl, rfl, hbw⟩ := hrel
        have hsw := hbw.size
        have hws := hb0.size
        have R1 := R0.below hbw R0.lt
        have hlt0 := R1.lt
        have c2 := R1.cell 2
        simp at c2
        have hpl := partT_len t k HLF.out
        have hpz := tb_size (partT t k)
        have hpz2 : (tb (partT t k)).size ≤ 1000000000 := by omega
        clear hpz
        by_cases hlt : k < t.kids.length
        · obtain ⟨b, off, rfl, _, hbh, _, hcc⟩ := HC.out (by omega)
          obtain ⟨hc0, hc1, hc2⟩ := hcc k hlt
          have hbx := hb0.trans (hbw.mono hws)
          have k0 := (hbx.cell (p := ⟨b, off + k * 3, none⟩) (by show b < _; omega)).trans hc0
          have k1 := (hbx.cell (p := ⟨b, off + k * 3 + 1, none⟩) (by show b < _; omega)).trans hc1
          have k2 := (hbx.cell (p := ⟨b, off + k * 3 + 2, none⟩) (by show b < _; omega)).trans hc2
          have hst' := (HB.out k hlt).under hbx hhi
          have hl2 := partT_len2 t k hlt HLF.out
          have HT := Lib.hid (partT_succ t k hlt)
          have hkz := tb_size (textOf t.kids[k])
          have hkz2 : (tb (textOf t.kids[k])).size ≤ 1000000000 := by omega
          have HSZ : Hid ((tb (partT t k)).size + 1 + (tb (textOf t.kids[k])).size ≤ 1000000000) := Lib.hid (by have := tb_size (partT t k); omega)
          have htk : TopOk t.kids[k] := HS.out k hlt
          clear hcc hc0 hc1 hc2 R1 hkz
          go_wp2_with fail
          refine (ih k hlt z (U k) lo hi _ hst' (by omega) htk (by omega)).mono ?_
          rintro e w1 ⟨rfl, hb1⟩
          have hs3 : (tb (partT t k) ++ (⟨#[32]⟩ : ByteArray)).size ≤ 1000000001 := by rw [ByteArray.size_append]; have := hpz2; show _ + 1 ≤ _; omega
          go_wp2
          go_roundw
          case rel => exact ⟨k + 1, by omega, by go_num, by rw [HT.out, ← tb_app, ← tb_app]; rfl, hbw.trans (hb1.mono hsw)⟩
          case measure => simp [intOf]; omega
        · have hks : k = t.kids.length := by omega
          have HK := Lib.hid hks
          clear hks R1
          go_wp2
          go_ret
          refine ⟨ret_tb ?_, hb0.trans (hbw.mono hws)⟩
          have e := HK.out
          subst e
          rw [← partT_all t HLF.out, ← tb_app]
          rfl
theorem specText5_any (t : TreeD) : SpX t := tree_ind specText5_of t

/-- TreeText, as data -/
def treeT (t : TreeD) : List UInt8 := if sizeT t ≤ 200 then textOf t else []
theorem Upto.big {n : Nat} {r : Int} (h : Upto n 200 r) : decide (r > 200) = decide (¬ n ≤ 200) := by
  unfold Upto at h
  rw [Bool.eq_iff_iff, decide_eq_true_eq, decide_eq_true_eq]
  omega
set_option maxRecDepth 100000 in
set_option maxHeartbeats 1000000 in
theorem specTreeText_any (t : TreeD) (z : Bool) (u : Value) (lo hi : Nat) (w : World) (h : Kd z w lo hi u t.kids) (hhi : hi ≤ w.heap.size) (ht : TopOk t) (hn : bulkT t ≤ 1048576) :
    Calls Tryz.prog 15 #[trV t u] w fun e w' => e = .returned (.string (tb (treeT t))) ∧ Below w.heap.size w w' := by
  have hb := al1 w (.cells #[.int .i64 t.rule, .string t.tok, u] 29)
  have HK := Lib.hid (h.under hb hhi)
  have R0 := Row.made w 29 #[.int .i64 t.rule, .string t.tok, u]
  have hsz := sizeT_le_bulkT t
  have hft : fitsT t := (fitsT_eq t).2 ⟨ht.2.2, h.fits⟩
  have hlen := textOf_len t hft
  have HT := Lib.hid ht
  obtain ⟨A, c, U, rfl, -⟩ := h.parts
  clear h hft ht
  unfold trV
  go_enter Tryz.func15, Tryz.ntmps15
  go_wp2_with fail
  refine (specSize5_any t z _ lo hi 200 _ HK.out (by simp; omega) (by omega) (by omega) (by omega)).mono ?_
  rintro e w1 ⟨r, rfl, hup, b1⟩
  have HU := Lib.hid hup.big
  have R1 := R0.below b1 R0.lt
  have a0 := R1.cell 0
  have a1 := R1.cell 1
  have a2 := R1.cell 2
  simp at a0 a1 a2
  have HB1 := Lib.hid (hb.trans (b1.mono (by simp)))
  have HK1 := Lib.hid (HK.out.under b1 (by simp; omega))
  have z1 : w.heap.size < w1.heap.size := R1.lt
  clear hup R1 b1 R0 hb
  by_cases hf : sizeT t ≤ 200
  · have q : decide (r > 200) = false := by rw [HU.out]; simp [hf]
    have HE : Hid (treeT t = textOf t) := Lib.hid (by unfold treeT; rw [if_pos hf])
    go_wp2_with fail
    refine (specText5_any t z _ lo hi w1 HK1.out (by omega) HT.out (by omega)).mono ?_
    rintro e w2 ⟨rfl, b2⟩
    go_wp2
    go_ret
    exact ⟨ret_tb (by rw [HE.out]), HB1.out.trans (b2.mono (by omega))⟩
  · have q : decide (r > 200) = true := by rw [HU.out]; simp [hf]
    have HE : Hid (treeT t = []) := Lib.hid (by unfold treeT; rw [if_neg hf])
    go_wp2
    go_ret
    exact ⟨ret_tb (by rw [HE.out]; rfl), HB1.out⟩
end Go.Proofs.YtokdhgocgicdnaaGreatDoor

/- A strings.Builder that is written by a pointer: WriteString, String; the table of numbers by hand (the tool finds no body that names two of the types). -/
namespace Go.Proofs
open Go.Shelf
def Tryz.laysW_ren : Go.Shelf.Ren := ⟨fun | 166 => 55 | 240 => 69 | 276 => 83 | n => n, fun | 70 => 65 | 72 => 67 | 9 => 9 | 0 => 0 | 37 => 22 | 3 => 3 | 4 => 4 | 5 => 5 | 20 => 20 | 75 => 99 | 80 => 69 | 164 => 154 | n => n, fun | n => n⟩
theorem Tryz.laysW : Go.Proofs.Lays.n166 Tryz.prog Tryz.laysW_ren := {
  mixed := by kernel_rfl
  f166 := Tryz.func55.trans (congrArg some (by kernel_rfl))
  f240 := Tryz.func69.trans (congrArg some (by kernel_rfl))
  f276 := Tryz.func83.trans (congrArg some (by kernel_rfl))
  t0 := Tryz.underlying0
  a0 := Tryz.isAgg0
  z0 := Tryz.sizeOf0
  v0 := Tryz.zeroValue0
  t3 := Tryz.underlying3
  a3 := Tryz.isAgg3
  z3 := Tryz.sizeOf3
  v3 := Tryz.zeroValue3
  t4 := Tryz.underlying4
  a4 := Tryz.isAgg4
  z4 := Tryz.sizeOf4
  v4 := Tryz.zeroValue4
  t9 := Tryz.underlying9
  a9 := Tryz.isAgg9
  z9 := Tryz.sizeOf9
  v9 := Tryz.zeroValue9
  t20 := Tryz.underlying20
  a20 := Tryz.isAgg20
  z20 := Tryz.sizeOf20
  v20 := Tryz.zeroValue20
  t37 := Tryz.underlying22
  a37 := Tryz.isAgg22
  z37 := Tryz.sizeOf22
  v37 := Tryz.zeroValue22
  t70 := Tryz.underlying65
  a70 := Tryz.isAgg65
  z70 := Tryz.sizeOf65
  v70 := Tryz.zeroValue65
  t72 := Tryz.underlying67
  a72 := Tryz.isAgg67
  z72 := Tryz.sizeOf67
  v72 := Tryz.zeroValue67
  t75 := Tryz.underlying99
  a75 := Tryz.isAgg99
  z75 := Tryz.sizeOf99
  v75 := Tryz.zeroValue99
  t164 := Tryz.underlying154
  a164 := Tryz.isAgg154
  z164 := Tryz.sizeOf154
  v164 := Tryz.zeroValue154 }
theorem Tryz.laysW_extra : Builder.Extra Tryz.prog Tryz.laysW_ren := {
  sizeBuilder := by kernel_rfl
  liesBuilder := by kernel_rfl
  t5 := Tryz.underlying5
  a5 := Tryz.isAgg5
  z5 := Tryz.sizeOf5
  v5 := Tryz.zeroValue5
  infoByte := by kernel_rfl
  cellsByte := by kernel_rfl
  sizeByte := by kernel_rfl
  neB5 := by decide }
end Go.Proofs
namespace Go.Proofs.YtokdhgocgicdnaaGreatDoor
open Go.RowKit

/-- block b is a strings.Builder of these bytes, of the call's own from B on -/
abbrev Wr (B b : Nat) (l : List UInt8) (w : World) : Prop := Lib.IsBuilderF 67 5 B b (Lib.byteCells l) w
/-- a builder stands while memory behind it is made -/
theorem Wr.on {B b : Nat} {l : List UInt8} {w w' : World} (h : Wr B b l w) (k : Below w.heap.size w w') : Wr B b l w' := by
  have hat : ∀ p, Lib.BuilderAtF 67 5 B b p (Lib.byteCells l) w → Lib.BuilderAtF 67 5 B b p (Lib.byteCells l) w' := fun p hp => by
    have hlt := hp.lt
    obtain ⟨hB, v, hb, hown, hne⟩ := hp
    refine ⟨hB, v, (k.block b hlt).trans hb, ?_, hne⟩
    exact hown.kept (row := none) ⟨k.os, k.tape, k.output, k.size, fun i hi _ => k.block i hi⟩ (by
      rcases hown.2 with ⟨rfl, _⟩ | ⟨g, cap, cur, fz, rfl, _⟩
      · exact .inl rfl
      · exact .inr (by simp [Value.ownBlock]))
  exact h.elim (fun x => .inl (hat _ x)) (fun x => .inr (hat _ x))
theorem wrS_any (B b : Nat) (l : List UInt8) (s : ByteArray) (w : World) (h : Wr B b l w) (hlen : l.length + s.size ≤ 140737488355328) (hBw : B ≤ w.heap.size) :
    Calls Tryz.prog 55 #[.pointer (some ⟨b, 0, none⟩), .string s] w fun e w' => e = .returned (.tuple #[.int .i64 s.size, .nilIface]) ∧ Wr B b (l ++ s.data.toList) w' ∧ Below B w w' ∧ Lib.OthersKept 5 (some b) w w' :=
  Calls.mono (Any.Builder_WriteString_k Tryz.laysW Tryz.laysW_extra B b (Lib.byteCells l) s w h (by rw [Lib.byteCells_length]; exact hlen) hBw) fun _ _ ⟨h1, h2, h3, h4⟩ =>
    ⟨h1, .inr (by rw [Lib.byteCells_append]; exact h2), h3, h4⟩
end Go.Proofs.YtokdhgocgicdnaaGreatDoor
