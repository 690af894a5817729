/- The walks of joinSets, holds, wholeBody and fixedPoint. -/
import Derived.Test.YtmhdbjoljonhdaaSetN
import Derived.Shelf.Abstract
namespace Go.Proofs.Ytmhdbjoljonhdaa
open Go.RowKit

set_option maxHeartbeats 1000000 in
theorem joinSets_any (v : Value) (l : List Nat) (hi : Nat) (w : World) (h : BitsAt w hi v l) :
    Calls Try.prog 95 #[v] w fun e w' => e = .returned (.int .u32 ((joinAll l : Nat) : Int)) ∧ w = w' := by
  obtain ⟨A, c, rfl, hlc, hc, hsz, hcell⟩ := h
  unfold maxLen at hc
  have HC := Lib.hid hcell
  have HZ := Lib.hid hsz
  clear hcell hsz
  go_enter Try.func95, Try.ntmps95
  go_wp2
  go_loop [3, 5, 8] (fun o _ i => ∃ k : Nat, k ≤ l.length ∧ i = .int .i64 k ∧ o = .int .u32 ((joinAll (l.take k) : Nat) : Int)) (fun _ _ i => l.length - (intOf i).toNat)
  case atStart => exact ⟨0, by omega, rfl, rfl⟩
  case round =>
    obtain ⟨k, hk, rfl, rfl⟩ := hrel
    by_cases hlt : k < l.length
    · obtain ⟨b, off, rfl, _, hcc⟩ := HC.out (by omega)
      have hck := hcc k hlt
      clear hcc
      have h1 := joinAll_take_lt HZ.out k
      have h2 := HZ.out _ (List.getElem_mem hlt)
      have hor := or_eq _ _ h1 h2
      rw [← joinAll_take hlt] at hor
      go_wp2
      go_round
      case rel => exact ⟨k + 1, by omega, by go_num, rfl⟩
      case measure => simp [intOf]; omega
    · have hks : k = l.length := by omega
      subst hks
      go_wp2
      go_ret
      exact ⟨rfl, rfl⟩

theorem joinTwo_any (g a b : Nat) (t : TypeId) (w : World) (h : Row w g t #[.int .u32 (a : Int), .int .u32 (b : Int)]) (ha : a < 4194304) (hb : b < 4194304) :
    Calls Try.prog 95 #[.slice (some ⟨g, 0, none⟩) 2 2] w fun e w' => e = .returned (.int .u32 ((a ||| b : Nat) : Int)) ∧ w = w' := by
  have := joinSets_any _ [a, b] _ w (BitsAt.two h ha hb)
  rwa [joinAll_two] at this

set_option maxHeartbeats 400000 in
theorem holds_any (s o : Nat) (w : World) (hs : s < 4194304) (ho : o < 4194304) :
    Calls Try.prog 69 #[.int .u32 (s : Int), .int .u32 (o : Int)] w fun e w' => e = .returned (.bool (holdsB s o)) ∧ w = w' := by
  have he := holds_eq s o hs ho
  go_enter Try.func69, Try.ntmps69
  go_wp2
  go_ret
  exact ⟨rfl, rfl⟩

set_option maxHeartbeats 400000 in
theorem wholeBody_any (v : Value) (l : List Nat) (hi : Nat) (w : World) (h : BitsAt w hi v l) :
    Calls Try.prog 96 #[v] w fun e w' => e = .returned (.int .u32 ((joinAll l : Nat) : Int)) ∧ w = w' := by
  have HV := Lib.hid h
  obtain ⟨A, c, rfl, -⟩ := h
  go_enter Try.func96, Try.ntmps96
  go_wp2_with fail
  refine (joinSets_any _ l hi _ HV.out).mono ?_
  rintro e w1 ⟨rfl, rfl⟩
  go_wp2
  go_ret
  exact ⟨rfl, rfl⟩

/-- a function value that makes a set of a set -/
def MakesSet (g : Nat) (lb : Array Value) (F : Nat → Nat) (w : World) : Prop :=
  ∀ (W : World) (k : Nat), k < 4194304 → Below w.heap.size w W → Calls Try.prog g (#[.int .u32 (k : Int)] ++ lb) W fun e w' => e = .returned (.int .u32 ((F k : Nat) : Int)) ∧ Below W.heap.size W w'

set_option maxRecDepth 100000 in
set_option maxHeartbeats 1000000 in
theorem fixedPoint_any (g : Nat) (lb : Array Value) (eg : Enters Try.prog g) (F : Nat → Nat) (b : Nat) (w : World) (hb : b < 4194304) (hF : ∀ k, k < 4194304 → F k < 4194304) (hp : MakesSet g lb F w) :
    Calls Try.prog 100 #[.int .u32 (b : Int), .func (.func g) #[] lb] w fun e w' => ∃ n : Nat, e = .returned (.int .u32 (n : Int)) ∧ FixAt F b n ∧ Below w.heap.size w w' := by
  have HP := Lib.hid hp
  have HF := Lib.hid hF
  unfold Enters at eg
  clear hp hF
  go_enter Try.func100, Try.ntmps100
  go_wp2
  go_loopw [0, 5] (fun x _ wr => ∃ k : Nat, k < 4194304 ∧ x = .int .u32 (k : Int) ∧ Below w.heap.size w wr ∧ (∀ i, b.testBit i = true → k.testBit i = true) ∧ (∀ P : Nat → Prop, P b → (∀ k, k < 4194304 → P k → P (k ||| F k)) → P k)) (fun x _ _ => 4194304 - (intOf x).toNat)
  case atStart => exact ⟨b, hb, rfl, Below.refl _ _, fun _ h => h, fun P h _ => h⟩
  case round =>
    obtain ⟨k, hk, rfl, hbw, hsub, hind⟩ := hrel
    have HS := Lib.hid hsub
    have HI := Lib.hid hind
    have hsw := hbw.size
    clear hsub hind
    have cS : Calls Try.prog g (#[.int .u32 (k : Int)] ++ lb) wr _ := HP.out wr k hk hbw
    have hFk := HF.out k hk
    have hol := or_lt hk hFk
    go_wp2_with (go_at_fn g; refine cS.mono ?_; rintro e W1 ⟨rfl, b1⟩)
    have R1 := Row.made W1 72 #[.int .u32 (k : Int), .int .u32 ((F k : Nat) : Int)]
    have B1 : Below w.heap.size w (W1.alloc (.cells #[.int .u32 (k : Int), .int .u32 ((F k : Nat) : Int)] 72)) := (hbw.trans (b1.mono hsw)).trans ((al1 W1 _).mono (Nat.le_trans hsw b1.size))
    refine (joinTwo_any _ k (F k) _ _ R1 hk hFk).mono ?_
    rintro e w2 ⟨rfl, rfl⟩
    clear R1 cS b1
    by_cases he : k ||| F k = k
    · have HE := Lib.hid he
      have hd : (((k ||| F k : Nat) : Int) == (k : Int)) = true := by rw [he]; simp
      clear he
      go_wp2
      go_ret
      refine ⟨k, rfl, ⟨hk, HS.out, fun i hi => ?_, HI.out⟩, B1⟩
      rw [← HE.out, Nat.testBit_or, hi, Bool.or_true]
    · have hd : (((k ||| F k : Nat) : Int) == (k : Int)) = false := by rw [beq_eq_false_iff_ne]; intro e; exact he (Int.ofNat.inj e)
      have hle : k ≤ k ||| F k := Nat.left_le_or
      go_wp2
      go_roundw
      case rel => exact ⟨k ||| F k, hol, rfl, B1, fun i hi => by rw [Nat.testBit_or, HS.out i hi, Bool.true_or], fun P h0 h1 => h1 k hk (HI.out P h0 h1)⟩
      case measure => simp [intOf]; omega
end Go.Proofs.Ytmhdbjoljonhdaa
