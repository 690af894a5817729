/- The plain arithmetic of reading a number out of bytes; and a scope with several labels. -/
import Derived.Test.YtldencefagnhfaaDoorNum
import Derived.ScopeJumps
namespace Go.Proofs.YtldencefagnhfaaDoor
open Go
/-- As Q; by a goto to a label: what holds there. -/
def jumpsTo (J : Nat → Act → World → Prop) (Q : Exit → Act → World → Prop) : Exit → Act → World → Prop
  | .goto l, a, w => J l a w
  | e, a, w => Q e a w
theorem jumpsTo_ret {J : Nat → Act → World → Prop} {Q : Exit → Act → World → Prop} {a : Act} {w : World} : jumpsTo J Q .ret a w = Q .ret a w := rfl
theorem jumpsTo_goto {J : Nat → Act → World → Prop} {Q : Exit → Act → World → Prop} {l : Nat} {a : Act} {w : World} : jumpsTo J Q (.goto l) a w = J l a w := rfl
theorem jumpsTo_normal {J : Nat → Act → World → Prop} {Q : Exit → Act → World → Prop} {a : Act} {w : World} : jumpsTo J Q .normal a w = Q .normal a w := rfl

/-- A SCOPE WITH SEVERAL LABELS: what holds at each of them, whether one jumps or falls there, and a measure that every pass lowers. -/
theorem wp_scope_many {P : Program} {a : Act} {w : World} {Q : Exit → Act → World → Prop} {c : Code} (J : Nat → Act → World → Prop) (μ : Nat → Act → World → Nat)
    (pass : ∀ l a w, J l a w → ∃ R, findLabel c l = some (.seq .skip R) ∧ R.wp P (jumpsTo (fun l' a' w' => J l' a' w' ∧ μ l' a' w' < μ l a w) Q) a w)
    (first : (∀ l a w, J l a w → ∃ R, findLabel c l = some (.seq .skip R) ∧ R.wp P (jumpsTo J Q) a w) → c.wp P (jumpsTo J Q) a w) : (Code.scope c).wp P Q a w := by
  have first' := first (fun l a w hJ => by
    obtain ⟨R, hf, hp⟩ := pass l a w hJ
    refine ⟨R, hf, wp_mono hp fun e a w q => ?_⟩
    cases e <;> first | exact q | exact q.1)
  intro b k cs
  have key : ∀ n l a w, μ l a w = n → J l a w → ∃ rest, gotoIn l (.inScope c :: k) = some (.code rest :: .inScope c :: k) ∧ ∃ e a' w', Q e a' w' ∧ Arrives P (lone (b.at a (.code rest :: .inScope c :: k)) cs w) b k cs e a' w' := by
    intro n
    induction n using Nat.strongRecOn with
    | _ n ih =>
      intro l a w hn hJ
      obtain ⟨R, hf, hp⟩ := pass l a w hJ
      refine ⟨.seq .skip R, by simp only [gotoIn, hf], ?_⟩
      obtain ⟨e, a₁, w₁, hq, harr⟩ := (wp_seq (wp_skip hp) : (Code.seq .skip R).wp P _ a w) b (.inScope c :: k) cs
      cases e with
      | normal => exact ⟨.normal, a₁, w₁, hq, Steps.trans harr (.one step_inScope)⟩
      | exit id => exact ⟨.exit id, a₁, w₁, hq, fun k' hk => harr k' (by simp [exitTo, hk])⟩
      | goto l' =>
        obtain ⟨hJ', hlt⟩ := hq
        obtain ⟨rest', hg', e₂, a₂, w₂, hq₂, harr₂⟩ := ih _ (by omega) l' a₁ w₁ rfl hJ'
        exact ⟨e₂, a₂, w₂, hq₂, .of_steps (harr _ hg') harr₂⟩
      | ret => exact ⟨_, a₁, w₁, hq, harr⟩
      | panic ch => exact ⟨_, a₁, w₁, hq, harr⟩
      | outgrown => exact ⟨_, a₁, w₁, hq, harr⟩
  obtain ⟨e, a₁, w₁, hq, harr⟩ := first' b (.inScope c :: k) cs
  cases e with
  | normal => exact ⟨.normal, a₁, w₁, hq, .head step_scope (Steps.trans harr (.one step_inScope))⟩
  | exit id => exact ⟨.exit id, a₁, w₁, hq, fun k' hk => .head step_scope (harr k' (by simp [exitTo, hk]))⟩
  | goto l' =>
    obtain ⟨rest, hg, e₂, a₂, w₂, hq₂, harr₂⟩ := key _ l' a₁ w₁ rfl hq
    exact ⟨e₂, a₂, w₂, hq₂, .of_steps (.head step_scope (harr _ hg)) harr₂⟩
  | ret => exact ⟨_, a₁, w₁, hq, .of_steps (.one step_scope) harr⟩
  | panic ch => exact ⟨_, a₁, w₁, hq, .of_steps (.one step_scope) harr⟩
  | outgrown => exact ⟨_, a₁, w₁, hq, .of_steps (.one step_scope) harr⟩
open Go.RowKit

def byteN (s : ByteArray) (k : Nat) : Nat := (s.data.toList[k]?.getD 0).toNat
theorem byteN_at (s : ByteArray) (k : Nat) (h : k < s.size) : byteN s k = s[k].toNat := by
  unfold byteN; rw [List.getElem?_eq_getElem (by simpa using h)]; rfl
theorem byteN_lt (s : ByteArray) (k : Nat) : byteN s k < 256 := (s.data.toList[k]?.getD 0).toNat_lt
/-- what the first k bytes from p on add up to, seven bits each -/
def acc (s : ByteArray) (p : Nat) : Nat → Nat
  | 0 => 0
  | k + 1 => acc s p k + byteN s (p + k) % 128 * 128 ^ k
theorem acc_lt (s : ByteArray) (p k : Nat) : acc s p k < 128 ^ k := by
  induction k with
  | zero => simp [acc]
  | succ k ih =>
    have h1 : byteN s (p + k) % 128 ≤ 127 := by omega
    have h2 : byteN s (p + k) % 128 * 128 ^ k ≤ 127 * 128 ^ k := Nat.mul_le_mul_right _ h1
    rw [Nat.pow_succ]
    show acc s p k + byteN s (p + k) % 128 * 128 ^ k < _
    omega
def unfoldN (u : Nat) : Int := if u % 2 = 1 then -(u / 2 : Nat) - 1 else (u / 2 : Nat)
/-- the number, the place behind it, the code -/
def goN (s : ByteArray) (p : Nat) : Nat → Nat → Int × Int × Int
  | 0, _ => (0, 0, 3)
  | f + 1, k =>
    if s.size ≤ p + k then (0, 0, 4)
    else if k = 9 ∧ 1 < byteN s (p + k) then (0, 0, 3)
    else if byteN s (p + k) < 128 then (if byteN s (p + k) = 0 ∧ 0 < k then (0, 0, 3) else (unfoldN (acc s p (k + 1)), ((p + k + 1 : Nat) : Int), 0))
    else goN s p f (k + 1)
def readOf (s : ByteArray) (at_ : Int) : Int × Int × Int := if at_ < 0 then (0, 0, 1) else goN s at_.toNat 10 0
def numOf (s : ByteArray) (at_ : Int) : Int × Int × Int := if 8000 < s.size then (0, 0, 2) else readOf s at_

theorem goN_short {s : ByteArray} {p f k : Nat} (h : s.size ≤ p + k) : goN s p (f + 1) k = (0, 0, 4) := by simp [goN, h]
theorem goN_tenth {s : ByteArray} {p f k : Nat} (h : ¬ s.size ≤ p + k) (h2 : k = 9 ∧ 1 < byteN s (p + k)) : goN s p (f + 1) k = (0, 0, 3) := by simp only [goN]; rw [if_neg h, if_pos h2]
theorem goN_more {s : ByteArray} {p f k : Nat} (h : ¬ s.size ≤ p + k) (h2 : ¬ (k = 9 ∧ 1 < byteN s (p + k))) (h3 : ¬ byteN s (p + k) < 128) : goN s p (f + 1) k = goN s p f (k + 1) := by simp only [goN]; rw [if_neg h, if_neg h2, if_neg h3]
theorem goN_zero {s : ByteArray} {p f k : Nat} (h : ¬ s.size ≤ p + k) (h2 : ¬ (k = 9 ∧ 1 < byteN s (p + k))) (h3 : byteN s (p + k) < 128) (h4 : byteN s (p + k) = 0 ∧ 0 < k) : goN s p (f + 1) k = (0, 0, 3) := by simp only [goN]; rw [if_neg h, if_neg h2, if_pos h3, if_pos h4]
theorem goN_last {s : ByteArray} {p f k : Nat} (h : ¬ s.size ≤ p + k) (h2 : ¬ (k = 9 ∧ 1 < byteN s (p + k))) (h3 : byteN s (p + k) < 128) (h4 : ¬ (byteN s (p + k) = 0 ∧ 0 < k)) : goN s p (f + 1) k = (unfoldN (acc s p (k + 1)), ((p + k + 1 : Nat) : Int), 0) := by simp only [goN]; rw [if_neg h, if_neg h2, if_pos h3, if_neg h4]

theorem pow_eq (k : Nat) : 128 ^ k = 2 ^ (7 * k) := by rw [Nat.pow_mul]
theorem part_lt {c k : Nat} (hk : k ≤ 9) (h9 : ¬ (k = 9 ∧ 1 < c)) : c % 128 * 2 ^ (7 * k) < 18446744073709551616 := by
  by_cases hk9 : k = 9
  · subst hk9
    have h1 : c % 128 ≤ 1 := by omega
    have h2 : c % 128 * 2 ^ (7 * 9) ≤ 1 * 2 ^ (7 * 9) := Nat.mul_le_mul_right _ h1
    omega
  · have h1 : c % 128 ≤ 127 := by omega
    have h2 : c % 128 * 2 ^ (7 * k) ≤ 127 * 2 ^ (7 * k) := Nat.mul_le_mul_right _ h1
    have h3 : 2 ^ (7 * k) ≤ 2 ^ (7 * 8) := Nat.pow_le_pow_right (by omega) (by omega)
    omega
theorem acc_step_lt {s : ByteArray} {p k : Nat} (hk : k ≤ 9) (h9 : ¬ (k = 9 ∧ 1 < byteN s (p + k))) : acc s p (k + 1) < 18446744073709551616 := by
  show acc s p k + byteN s (p + k) % 128 * 128 ^ k < _
  have h1 := acc_lt s p k
  rw [pow_eq] at h1 ⊢
  by_cases hk9 : k = 9
  · subst hk9
    have h2 : byteN s (p + 9) % 128 ≤ 1 := by omega
    have h3 : byteN s (p + 9) % 128 * 2 ^ (7 * 9) ≤ 1 * 2 ^ (7 * 9) := Nat.mul_le_mul_right _ h2
    omega
  · have h2 : byteN s (p + k) % 128 ≤ 127 := by omega
    have h3 : byteN s (p + k) % 128 * 2 ^ (7 * k) ≤ 127 * 2 ^ (7 * k) := Nat.mul_le_mul_right _ h2
    have h4 : 2 ^ (7 * k) ≤ 2 ^ (7 * 8) := Nat.pow_le_pow_right (by omega) (by omega)
    omega
theorem cast_part (c k : Nat) : ((c % 128 : Nat) : Int) * 2 ^ (7 * k) = ((c % 128 * 2 ^ (7 * k) : Nat) : Int) := by
  rw [Int.natCast_mul, Int.natCast_pow]; rfl
theorem and127b (c : Nat) (h : c < 256) : bits .and .u8 (c : Int) 127 = ((c % 128 : Nat) : Int) := by
  have e := u8_and_nat c 127 h (by omega)
  rw [show (127 : Nat) = 2 ^ 7 - 1 from rfl, Nat.and_two_pow_sub_one_eq_mod] at e
  exact e
theorem u64_id {n : Nat} (h : n < 18446744073709551616) : IntKind.u64.wrap (n : Int) = (n : Int) := by rw [IntKind.wrap_u64]; omega
theorem or_step {a c k : Nat} (ha : a < 128 ^ k) (hc : c < 256) (hk : k ≤ 9) (h9 : ¬ (k = 9 ∧ 1 < c)) :
    bits .or .u64 (a : Int) (IntKind.u64.wrap (IntKind.u64.wrap (bits .and .u8 (c : Int) 127) * 2 ^ (7 * k))) = ((a + c % 128 * 128 ^ k : Nat) : Int) := by
  rw [and127b c hc, u64_id (by omega), cast_part, u64_id (part_lt hk h9)]
  have hp := part_lt hk h9
  have ha' : a < 18446744073709551616 := Nat.lt_of_lt_of_le ha (by rw [pow_eq]; exact Nat.le_trans (Nat.pow_le_pow_right (by omega) (show 7 * k ≤ 7 * 9 by omega)) (by omega))
  rw [u64_or_nat a _ ha' hp]
  have e := Nat.two_pow_add_eq_or_of_lt (i := 7 * k) (b := a) (by rw [← pow_eq]; exact ha) (c % 128)
  rw [Nat.or_comm, Nat.mul_comm (c % 128), ← e, pow_eq, Nat.mul_comm (c % 128), Nat.add_comm]
end Go.Proofs.YtldencefagnhfaaDoor
