import Derived.Test.YtiochjagolijfaaCls
import Derived.Test.YtiochjagolijfaaJGva
import Derived.Test.YtiochjagolijfaaRnm
/- Clean, of the model; what may be handed in, of the program. -/
namespace Go.Proofs.Ytiochjagolijfaa
open Go.RowKit

/-- Clean, as data, with its limits -/
noncomputable def cleanD (ms : List MadeD) (start : ByteArray) : List MadeD := if ms.length ≤ 400 ∧ start.size ≤ 8000 then cleanOf ms start else []
theorem cleanD_in {ms : List MadeD} {start : ByteArray} (h : ms.length ≤ 400 ∧ start.size ≤ 8000) : cleanD ms start = cleanOf ms start := if_pos h
theorem cleanD_out {ms : List MadeD} {start : ByteArray} (h : ¬(ms.length ≤ 400 ∧ start.size ≤ 8000)) : cleanD ms start = [] := if_neg h
theorem no_mades (w : World) (lo hi : Nat) (A : Option Addr) : DM true w lo hi (.slice A 0 0) [] := ⟨A, 0, rfl, Nat.le_refl _, by unfold maxLen; omega, fun h => absurd h (by simp)⟩
set_option maxRecDepth 100000 in
set_option maxHeartbeats 1000000 in
theorem specClean_any (v : Value) (ms : List MadeD) (start : ByteArray) (lo hi : Nat) (w : World) (h : DM true w lo hi v ms) (hhi : hi ≤ w.heap.size) (hn : bulkDs ms ≤ 1048576) (hss : start.size ≤ maxLen) :
    Calls Try.prog 8 #[v, .string start] w fun e w' => ∃ u, e = .returned u ∧ DM true w' 0 w'.heap.size u (cleanD ms start) ∧ Below w.heap.size w w' := by
  have HV := Lib.hid h
  obtain ⟨A, c, rfl, -⟩ := h
  by_cases h1 : 400 < ms.length
  · have i1 : decide ((400 : Int) < (ms.length : Int)) = true := decide_eq_true (by omega)
    have FIN : Hid (DM true (w.alloc (.cells #[] 67)) 0 (w.alloc (.cells #[] 67)).heap.size (.slice (some ⟨w.heap.size, 0, none⟩) 0 0) (cleanD ms start) ∧ Below w.heap.size w (w.alloc (.cells #[] 67))) := Lib.hid ⟨by rw [cleanD_out (by omega)]; exact no_mades _ _ _ _, al1 w _⟩
    clear h1
    go_enter Try.func8, Try.ntmps8
    go_wp2
    go_ret
    exact ⟨_, rfl, FIN.out⟩
  · have i1 : decide ((400 : Int) < (ms.length : Int)) = false := decide_eq_false (by omega)
    by_cases h2 : 8000 < start.size
    · have i2 : decide ((8000 : Int) < (start.size : Int)) = true := decide_eq_true (by omega)
      have FIN : Hid (DM true (w.alloc (.cells #[] 67)) 0 (w.alloc (.cells #[] 67)).heap.size (.slice (some ⟨w.heap.size, 0, none⟩) 0 0) (cleanD ms start) ∧ Below w.heap.size w (w.alloc (.cells #[] 67))) := Lib.hid ⟨by rw [cleanD_out (by omega)]; exact no_mades _ _ _ _, al1 w _⟩
      clear h1
      go_enter Try.func8, Try.ntmps8
      go_wp2
      go_ret
      exact ⟨_, rfl, FIN.out⟩
    · have i2 : decide ((8000 : Int) < (start.size : Int)) = false := decide_eq_false (by omega)
      have HE := Lib.hid (cleanD_in (ms := ms) (start := start) (by omega))
      clear h1 h2
      go_enter Try.func8, Try.ntmps8
      go_wp2_with fail
      refine (l07Clean_any _ ms start lo hi _ HV.out hhi hn hss).mono ?_
      rintro e w2 ⟨u, rfl, hdm, b2⟩
      rw [← HE.out] at hdm
      have FIN := Lib.hid (And.intro hdm b2)
      obtain ⟨A2, c2, rfl, -⟩ := hdm
      clear b2
      go_wp2
      go_ret
      exact ⟨_, rfl, FIN.out⟩
end Go.Proofs.Ytiochjagolijfaa

/- handedIn, of the program. -/
namespace Go.Proofs.Ytiochjagolijfaa
open Go.RowKit

set_option maxRecDepth 100000 in
set_option maxHeartbeats 1000000 in
theorem handedIn_any (A : Option Addr) (n c : Nat) (start : ByteArray) (w : World) (hn : n ≤ 1048576) (hss : start.size ≤ maxLen) :
    Calls Try.prog 29 #[.slice A n c, .string start] w fun e w' => e = .returned (.bool (decide (n ≤ 400 ∧ start.size ≤ 8000))) ∧ w = w' := by
  unfold maxLen at hss
  by_cases h1 : n ≤ 400
  · have i1 : decide ((n : Int) ≤ 400) = true := decide_eq_true (by omega)
    by_cases h2 : start.size ≤ 8000
    · have i2 : decide ((start.size : Int) ≤ 8000) = true := decide_eq_true (by omega)
      have HE : Hid (decide (n ≤ 400 ∧ start.size ≤ 8000) = true) := Lib.hid (decide_eq_true ⟨h1, h2⟩)
      go_enter Try.func29, Try.ntmps29
      go_wp2
      go_ret
      exact ⟨ret_bool HE.out.symm, rfl⟩
    · have i2 : decide ((start.size : Int) ≤ 8000) = false := decide_eq_false (by omega)
      have HE : Hid (decide (n ≤ 400 ∧ start.size ≤ 8000) = false) := Lib.hid (decide_eq_false (by omega))
      go_enter Try.func29, Try.ntmps29
      go_wp2
      go_ret
      exact ⟨ret_bool HE.out.symm, rfl⟩
  · have i1 : decide ((n : Int) ≤ 400) = false := decide_eq_false (by omega)
    have HE : Hid (decide (n ≤ 400 ∧ start.size ≤ 8000) = false) := Lib.hid (decide_eq_false (by omega))
    go_enter Try.func29, Try.ntmps29
    go_wp2
    go_ret
    exact ⟨ret_bool HE.out.symm, rfl⟩
end Go.Proofs.Ytiochjagolijfaa

/- The Mades of the useful Rules: impl.given, impl.Given. -/
namespace Go.Proofs.Ytiochjagolijfaa
open Go.RowKit

theorem givenOf_len (rs : List RuleD) : (givenOf rs).length = (useOf rs).length := by simp [givenOf]
theorem givenOf_at (rs : List RuleD) (k : Nat) (h : k < (useOf rs).length) : (givenOf rs)[k]'(by rw [givenOf_len]; exact h) = givenD rs (useOf rs)[k] := by simp [givenOf]
theorem useOf_lt {rs : List RuleD} : ∀ i ∈ useOf rs, i < rs.length := fun i hi => by
  cases hq : gramB rs
  · rw [useOf_f hq] at hi; simp at hi
  · rw [useOf_t hq] at hi; exact useIx_lt i hi
theorem rule_len5 {rs : List RuleD} {n : Nat} (h : n ∈ useOf rs) : (ruleAt rs n).body.length ≤ 5 := by
  cases hq : gramB rs
  · rw [useOf_f hq] at h; simp at h
  · have := (Rt.of hq).len n (useOf_lt n h)
    rw [ruleAt_eq (useOf_lt n h)]
    exact this

theorem given_bulk (rs : List RuleD) : bulkDs (givenOf rs) ≤ 2097152 := by
  have h1 : ∀ n ∈ useOf rs, bulkD (givenD rs n) ≤ 5 + ((ruleAt rs n).head.size + bulkS (ruleAt rs n).body) := fun n hn => by
    have := rule_len5 hn
    show (ruleAt rs n).head.size + bulkS (ruleAt rs n).body + sizeMs (varsD (ruleAt rs n).body.length) ≤ _
    rw [varsD_size]
    omega
  have h2 : ∀ n ∈ useOf rs, bulkD (givenD rs n) ≤ 40 := fun n hn => by
    cases hq : gramB rs
    · rw [useOf_f hq] at hn; simp at hn
    · have hl := useOf_lt n hn
      have hs := Tx.short_of (((gramB_iff rs).1 hq).2.2 n hl)
      have h3 := h1 n hn
      rw [ruleAt_eq hl] at h3
      obtain ⟨s1, s2, s3⟩ := hs
      have h4 := Tx.symsT_len s3 rs[n].body.length (Nat.le_refl _)
      rw [List.take_length] at h4
      have h5 : (Tx.symsT rs[n].body).length = bulkS rs[n].body := by
        clear h4 s3 s2 s1 h3
        induction rs[n].body with
        | nil => rfl
        | cons s ss ih =>
          have e : (s.data.toList).length = s.size := rfl
          unfold Tx.symsT at ih ⊢
          unfold bulkS sizes at ih ⊢
          simp only [List.flatMap_cons, List.length_append, List.length_cons, List.map_cons, List.sum_cons, ih, e]
          omega
      omega
  have h3 : ∀ l : List Nat, (∀ n ∈ l, bulkD (givenD rs n) ≤ 40) → ((l.map (givenD rs)).map bulkD).sum ≤ 40 * l.length := fun l hl => by
    induction l with
    | nil => simp
    | cons n l ih =>
      have a := hl n List.mem_cons_self
      have b := ih fun m hm => hl m (List.mem_cons_of_mem _ hm)
      simp only [List.map_cons, List.sum_cons, List.length_cons]
      omega
  have h4 := h3 (useOf rs) h2
  have h5 := useOf_few rs
  unfold bulkDs
  rw [givenOf_len]
  unfold givenOf
  omega
end Go.Proofs.Ytiochjagolijfaa
