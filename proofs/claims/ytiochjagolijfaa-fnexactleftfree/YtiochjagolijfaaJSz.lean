import Derived.Test.YtiochjagolijfaaTre
import Derived.Test.YtiochjagolijfaaJOwns
import Derived.WalkKit
import Derived.WalkSpells
import Derived.WalkLawsBesides
/- Terms, as data, and as memory holds them: a list of terms in a slice, three cells each. No program stands in this text but its types' numbers. -/
namespace Go.Proofs.Ytiochjagolijfaa
open Go.RowKit

/-- a tree, as data -/
inductive TermD where
  | node (kind : Int) (num : Int) (kids : List TermD)
namespace TermD
def kind : TermD → Int | node r _ _ => r
def num : TermD → Int | node _ t _ => t
def kids : TermD → List TermD | node _ _ k => k
end TermD
instance : Inhabited TermD := ⟨.node 0 0 []⟩
mutual
/-- how many parts it has -/
def sizeM : TermD → Nat | .node _ _ ks => 1 + sizeMs ks
def sizeMs : List TermD → Nat | [] => 0 | t :: ts => sizeM t + sizeMs ts
end
theorem sizeM_eq (t : TermD) : sizeM t = 1 + sizeMs t.kids := by cases t; rfl
theorem sizeMs_append (a b : List TermD) : sizeMs (a ++ b) = sizeMs a + sizeMs b := by
  induction a with
  | nil => simp [sizeMs]
  | cons t ts ih => simp [sizeMs, ih]; omega
theorem sizeMs_take (ts : List TermD) (k : Nat) (h : k < ts.length) : sizeMs (ts.take (k + 1)) = sizeMs (ts.take k) + sizeM ts[k] := by
  rw [List.take_succ_eq_append_getElem h, sizeMs_append]; simp [sizeMs]
theorem sizeMs_take_le (ts : List TermD) (k : Nat) : sizeMs (ts.take k) ≤ sizeMs ts := by
  conv => rhs; rw [← List.take_append_drop k ts]
  rw [sizeMs_append]; omega
theorem sizeMs_get (ts : List TermD) (k : Nat) (h : k < ts.length) : sizeM ts[k] ≤ sizeMs ts := by
  have := sizeMs_take ts k h; have := sizeMs_take_le ts (k + 1); omega
theorem length_sizeMs (ts : List TermD) : ts.length ≤ sizeMs ts := by
  induction ts with
  | nil => simp
  | cons t ts ih => simp [sizeMs, sizeM_eq]; omega

/-- a list of terms, in blocks from lo on ahead of hi; z: none of these is frozen -/
inductive KM (z : Bool) (w : World) (lo hi : Nat) : Value → List TermD → Prop
  | mk (A : Option Addr) (c : Nat) (ts : List TermD) (U : Nat → Value) (hl : ts.length ≤ c) (hc : c ≤ maxLen)
    (hs : ∀ i (h : i < ts.length), (-9223372036854775808 ≤ ts[i].num ∧ ts[i].num ≤ 9223372036854775807) ∧ -9223372036854775808 ≤ ts[i].kind ∧ ts[i].kind ≤ 9223372036854775807)
    (hcell : 0 < ts.length → ∃ b off, A = some ⟨b, off, none⟩ ∧ lo ≤ b ∧ b < hi ∧ (z = true → FreeB w b) ∧ ∀ i (h : i < ts.length), w.cell? ⟨b, off + i * 3, none⟩ = some (.int .i64 ts[i].kind) ∧ w.cell? ⟨b, off + i * 3 + 1, none⟩ = some (.int .i64 ts[i].num) ∧ w.cell? ⟨b, off + i * 3 + 2, none⟩ = some (U i))
    (sub : ∀ i (h : i < ts.length), KM z w lo hi (U i) ts[i].kids) : KM z w lo hi (.slice A ts.length c) ts
theorem KM.parts {z : Bool} {w : World} {lo hi : Nat} {v : Value} {ts : List TermD} (h : KM z w lo hi v ts) :
    ∃ (A : Option Addr) (c : Nat) (U : Nat → Value), v = .slice A ts.length c ∧ ts.length ≤ c ∧ c ≤ maxLen ∧
      (∀ i (h : i < ts.length), (-9223372036854775808 ≤ ts[i].num ∧ ts[i].num ≤ 9223372036854775807) ∧ -9223372036854775808 ≤ ts[i].kind ∧ ts[i].kind ≤ 9223372036854775807) ∧
      (0 < ts.length → ∃ b off, A = some ⟨b, off, none⟩ ∧ lo ≤ b ∧ b < hi ∧ (z = true → FreeB w b) ∧ ∀ i (h : i < ts.length), w.cell? ⟨b, off + i * 3, none⟩ = some (.int .i64 ts[i].kind) ∧ w.cell? ⟨b, off + i * 3 + 1, none⟩ = some (.int .i64 ts[i].num) ∧ w.cell? ⟨b, off + i * 3 + 2, none⟩ = some (U i)) ∧
      (∀ i (h : i < ts.length), KM z w lo hi (U i) ts[i].kids) := by
  cases h with
  | mk A c ts U hl hc hs hcell sub => exact ⟨A, c, U, rfl, hl, hc, hs, hcell, sub⟩
theorem KM.keep {z : Bool} {w w' : World} {lo hi : Nat} {v : Value} {ts : List TermD} (h : KM z w lo hi v ts) (k : Keeps lo hi w w') : KM z w' lo hi v ts := by
  induction h with
  | mk A c ts U hl hc hs hcell sub ih =>
    refine .mk A c ts U hl hc hs (fun hp => ?_) ih
    obtain ⟨b, off, e, h1, h2, hz, hcc⟩ := hcell hp
    refine ⟨b, off, e, h1, h2, fun e => by obtain ⟨x, y, hh⟩ := hz e; exact ⟨x, y, (k b h1 h2).trans hh⟩, fun i hi => ?_⟩
    obtain ⟨a1, a2, a3⟩ := hcc i hi
    exact ⟨(k.cell (p := ⟨b, off + i * 3, none⟩) h1 h2).trans a1, (k.cell (p := ⟨b, off + i * 3 + 1, none⟩) h1 h2).trans a2, (k.cell (p := ⟨b, off + i * 3 + 2, none⟩) h1 h2).trans a3⟩
theorem KM.more {z : Bool} {w : World} {lo hi lo' hi' : Nat} {v : Value} {ts : List TermD} (h : KM z w lo hi v ts) (g1 : lo' ≤ lo) (g2 : hi ≤ hi') : KM z w lo' hi' v ts := by
  induction h with
  | mk A c ts U hl hc hs hcell sub ih =>
    refine .mk A c ts U hl hc hs (fun hp => ?_) ih
    obtain ⟨b, off, e, h1, h2, hz, hcc⟩ := hcell hp
    exact ⟨b, off, e, by omega, by omega, hz, hcc⟩
theorem KM.under {z : Bool} {w w' : World} {lo hi : Nat} {v : Value} {ts : List TermD} (h : KM z w lo hi v ts) {B : Nat} (b : Below B w w') (hB : hi ≤ B) : KM z w' lo hi v ts := h.keep (Keeps.below b hB)
theorem KM.drewN {z : Bool} {w : World} {lo hi : Nat} {v : Value} {ts : List TermD} (h : KM z w lo hi v ts) (n : Nat) : KM z (w.drewN n) lo hi v ts := h.keep (fun _ _ _ => rfl)
theorem TermD.ext_of {a b : TermD} (h1 : a.kind = b.kind) (h2 : a.num = b.num) (h3 : a.kids = b.kids) : a = b := by
  cases a; cases b
  simp only [TermD.kind, TermD.num, TermD.kids] at h1 h2 h3
  subst h1 h2 h3; rfl
/-- what lies at a place is one list of terms -/
theorem KM.same {z z' : Bool} {w : World} {lo hi lo' hi' : Nat} {v : Value} {ts : List TermD} (h : KM z w lo hi v ts) : ∀ {A : Option Addr} {n c c' : Nat} {ts' : List TermD}, v = .slice A n c → KM z' w lo' hi' (.slice A n c') ts' → ts' = ts := by
  induction h with
  | mk A c ts U hl hc hs hcell sub ih =>
    intro A' n c2 c' ts' he h'
    injection he with e1 e2 e3
    subst e1 e2 e3
    obtain ⟨A2, c3, U2, e, k1, k2, k3, k4, k5⟩ := h'.parts
    injection e with e1 e2 e3
    subst e1 e3
    refine List.ext_getElem e2.symm fun i h1 h2 => ?_
    obtain ⟨b, off, ea, _, _, _, hcc⟩ := hcell (by omega)
    obtain ⟨b', off', ea', _, _, _, hcc'⟩ := k4 (by omega)
    rw [ea] at ea'
    injection ea' with ea'
    injection ea' with eb eo
    subst eb eo
    obtain ⟨a1, a2, a3⟩ := hcc i h2
    obtain ⟨a1', a2', a3'⟩ := hcc' i h1
    rw [a1] at a1'; rw [a2] at a2'; rw [a3] at a3'
    injection a1' with a1'; injection a1' with _ a1'
    injection a2' with a2'; injection a2' with _ a2'
    injection a3' with a3'
    have hk1 := sub i h2
    obtain ⟨A4, c4, U4, e4, _⟩ := hk1.parts
    have hk2 := k5 i h1
    rw [← a3', e4] at hk2
    exact TermD.ext_of a1'.symm a2'.symm (ih i h2 e4 hk2)

theorem KM.loose {z : Bool} {w : World} {lo hi : Nat} {v : Value} {ts : List TermD} (h : KM z w lo hi v ts) : KM false w lo hi v ts := by
  induction h with
  | mk A c ts U hl hc hs hcell sub ih =>
    refine .mk A c ts U hl hc hs (fun hp => ?_) ih
    obtain ⟨b, off, e, h1, h2, hz, hcc⟩ := hcell hp
    exact ⟨b, off, e, h1, h2, (fun e => by cases e), hcc⟩

/-- a tree, as a value -/
def tmV (t : TermD) (u : Value) : Value := .agg #[.int .i64 t.kind, .int .i64 t.num, u]
/-- a right text and number stand at a tree's top -/
def TopM (t : TermD) : Prop := (-9223372036854775808 ≤ t.num ∧ t.num ≤ 9223372036854775807) ∧ -9223372036854775808 ≤ t.kind ∧ t.kind ≤ 9223372036854775807

/-- the blocks of trees that may be written: the list of Kids stands behind each -/
inductive ShM (w : World) (lo hi : Nat) : Value → List TermD → Prop
  | mk (A : Option Addr) (c : Nat) (ts : List TermD) (U : Nat → Value) (hl : ts.length ≤ c) (hc : c ≤ maxLen)
    (hcell : 0 < ts.length → ∃ b cur, A = some ⟨b, 0, none⟩ ∧ lo ≤ b ∧ b < hi ∧ Row w b 47 cur ∧ cur.size = ts.length * 3 ∧ ∀ i, i < ts.length → cur[i * 3 + 2]? = some (U i))
    (sub : ∀ i (h : i < ts.length), ShM w lo hi (U i) ts[i].kids) : ShM w lo hi (.slice A ts.length c) ts
theorem ShM.parts {w : World} {lo hi : Nat} {v : Value} {ts : List TermD} (h : ShM w lo hi v ts) :
    ∃ (A : Option Addr) (c : Nat) (U : Nat → Value), v = .slice A ts.length c ∧ ts.length ≤ c ∧ c ≤ maxLen ∧
      (0 < ts.length → ∃ b cur, A = some ⟨b, 0, none⟩ ∧ lo ≤ b ∧ b < hi ∧ Row w b 47 cur ∧ cur.size = ts.length * 3 ∧ ∀ i, i < ts.length → cur[i * 3 + 2]? = some (U i)) ∧
      (∀ i (h : i < ts.length), ShM w lo hi (U i) ts[i].kids) := by
  cases h with
  | mk A c ts U hl hc hcell sub => exact ⟨A, c, U, rfl, hl, hc, hcell, sub⟩
theorem ShM.keep {w w' : World} {lo hi : Nat} {v : Value} {ts : List TermD} (h : ShM w lo hi v ts) (k : Keeps lo hi w w') : ShM w' lo hi v ts := by
  induction h with
  | mk A c ts U hl hc hcell sub ih =>
    refine .mk A c ts U hl hc (fun hp => ?_) ih
    obtain ⟨b, cur, e, h1, h2, hr, hcc⟩ := hcell hp
    exact ⟨b, cur, e, h1, h2, hr.same (k b h1 h2), hcc⟩
theorem ShM.more {w : World} {lo hi lo' hi' : Nat} {v : Value} {ts : List TermD} (h : ShM w lo hi v ts) (g1 : lo' ≤ lo) (g2 : hi ≤ hi') : ShM w lo' hi' v ts := by
  induction h with
  | mk A c ts U hl hc hcell sub ih =>
    refine .mk A c ts U hl hc (fun hp => ?_) ih
    obtain ⟨b, cur, e, h1, h2, hr, hcc⟩ := hcell hp
    exact ⟨b, cur, e, by omega, by omega, hr, hcc⟩
theorem ShM.under {w w' : World} {lo hi : Nat} {v : Value} {ts : List TermD} (h : ShM w lo hi v ts) {B : Nat} (b : Below B w w') (hB : hi ≤ B) : ShM w' lo hi v ts := h.keep (Keeps.below b hB)
/-- a Rule or a Tok is written somewhere: all shapes stand -/
theorem ShM.put {w : World} {lo hi : Nat} {v : Value} {ts : List TermD} (h : ShM w lo hi v ts) (g i : Nat) (x : Value) (hi2 : ∀ j, i ≠ j * 3 + 2) : ShM (w.setCell ⟨g, i, none⟩ x) lo hi v ts := by
  induction h with
  | mk A c ts U hl hc hcell sub ih =>
    refine .mk A c ts U hl hc (fun hp => ?_) ih
    obtain ⟨b, cur, e, h1, h2, hr, hsz, hcc⟩ := hcell hp
    by_cases hb : b = g
    · subst hb
      exact ⟨b, _, e, h1, h2, hr.put i x, by simp [hsz], fun j hj => by rw [Array.getElem?_setIfInBounds_ne (hi2 j)]; exact hcc j hj⟩
    · exact ⟨b, cur, e, h1, h2, hr.away hb x, hsz, hcc⟩
end Go.Proofs.Ytiochjagolijfaa

/- The law's own measure of what came in: szStringS, szRule, szRuleS, szGram say how much is left of a number, or -1. -/
namespace Go.Proofs.Ytiochjagolijfaa
open Go.RowKit

theorem ret_int {k : IntKind} {a b : Int} (h : a = b) : Ending.returned (.int k a) = .returned (.int k b) := by rw [h]

set_option maxHeartbeats 1000000 in
theorem szStringS_any (v : Value) (ss : List ByteArray) (lo hi : Nat) (left : Int) (w : World) (h : Strs w lo hi v ss) (h0 : 0 ≤ left) (h1 : left ≤ 1048576) :
    Calls Try.prog 66 #[v, .int .i64 left] w fun e w' => e = .returned (.int .i64 (szOut left (bulkS ss))) ∧ w = w' := by
  obtain ⟨A, c, rfl, hlc, hc, hsz, hcell⟩ := h
  unfold maxLen at hc
  have HC := Lib.hid hcell
  have HZ := Lib.hid hsz
  clear hcell hsz
  by_cases hn : left < ss.length
  · go_enter Try.func66, Try.ntmps66
    go_wp2
    go_ret
    exact ⟨ret_int (by rw [szOut_neg]; unfold bulkS; omega), rfl⟩
  have d0 : decide (left - (ss.length : Int) < 0) = false := decide_eq_false (by omega)
  go_enter Try.func66, Try.ntmps66
  go_wp2
  go_loop [1, 5] (fun l i => ∃ k : Nat, k ≤ ss.length ∧ i = .int .i64 k ∧ l = .int .i64 (left - (ss.length : Int) - (sizes (ss.take k) : Int)) ∧ 0 ≤ left - (ss.length : Int) - (sizes (ss.take k) : Int)) (fun _ i => ss.length - (intOf i).toNat)
  case atStart => exact ⟨0, by omega, rfl, by simp [sizes], by simp [sizes]; omega⟩
  case round =>
    obtain ⟨k, hk, rfl, rfl, hle⟩ := hrel
    by_cases hlt : k < ss.length
    · obtain ⟨b, off, rfl, _, _, hcc⟩ := HC.out (by omega)
      have hck := hcc k hlt
      have hs := sizes_take_succ ss k hlt
      have hm := HZ.out ss[k] (List.getElem_mem hlt)
      unfold maxLen at hm
      have HS := Lib.hid hs
      clear hs hcc
      by_cases ht : left - (ss.length : Int) - (sizes (ss.take k) : Int) - (ss[k].size : Int) < 0
      · go_wp2
        go_ret
        exact ⟨ret_int (by rw [szOut_neg]; have := sizes_take_le ss (k + 1); have := HS.out; unfold bulkS; omega), rfl⟩
      · go_wp2
        go_round
        case rel => exact ⟨k + 1, by omega, by go_num, by rw [HS.out]; go_num, by rw [HS.out]; omega⟩
        case measure => simp [intOf]; omega
    · have hks : k = ss.length := by omega
      have HK := Lib.hid hks
      clear hks
      go_wp2
      go_ret
      refine ⟨ret_int ?_, rfl⟩
      have e := HK.out
      subst e
      rw [List.take_length] at hle ⊢
      rw [szOut_pos (by unfold bulkS; omega)]
      unfold bulkS; omega

set_option maxHeartbeats 1000000 in
theorem szRule_any (r : RuleD) (u : Value) (lo hi : Nat) (left : Int) (w : World) (hh : r.head.size ≤ maxLen) (h : Strs w lo hi u r.body) (hhi : hi ≤ w.heap.size) (h0 : 0 ≤ left) (h1 : left ≤ 1048576) :
    Calls Try.prog 96 #[.agg #[.string r.head, u], .int .i64 left] w fun e w' => e = .returned (.int .i64 (szOut left (r.head.size + bulkS r.body))) ∧ Below w.heap.size w w' := by
  unfold maxLen at hh
  by_cases hn : left < r.head.size
  · go_enter Try.func96, Try.ntmps96
    go_wp2
    go_ret
    exact ⟨ret_int (by rw [szOut_neg]; omega), (Below.refl _ _).alloc (Nat.le_refl _) _⟩
  have d0 : decide (left - (r.head.size : Int) < 0) = false := decide_eq_false (by omega)
  have hb : Below w.heap.size w (w.alloc (.cells #[.string r.head, u] 139)) := (Below.refl _ _).alloc (Nat.le_refl _) _
  by_cases ht : left - (r.head.size : Int) < bulkS r.body
  · have e1 : szOut (left - (r.head.size : Int)) (bulkS r.body) = -1 := szOut_neg ht
    go_enter Try.func96, Try.ntmps96
    go_wp2_with (go_at_call 66; refine (szStringS_any u r.body lo hi _ _ (h.below hb hhi) (by omega) (by omega)).mono ?_; rintro e w' ⟨rfl, rfl⟩; rw [e1])
    go_ret
    exact ⟨ret_int (by rw [szOut_neg]; omega), hb⟩
  · have e1 : szOut (left - (r.head.size : Int)) (bulkS r.body) = left - (r.head.size : Int) - (bulkS r.body : Int) := szOut_pos ht
    have d1 : decide (left - (r.head.size : Int) - (bulkS r.body : Int) < 0) = false := decide_eq_false (by omega)
    go_enter Try.func96, Try.ntmps96
    go_wp2_with (go_at_call 66; refine (szStringS_any u r.body lo hi _ _ (h.below hb hhi) (by omega) (by omega)).mono ?_; rintro e w' ⟨rfl, rfl⟩; rw [e1])
    go_ret
    exact ⟨ret_int (by rw [szOut_pos (by omega)]; omega), hb⟩

set_option maxHeartbeats 1000000 in
theorem szRuleS_any (v : Value) (rs : List RuleD) (lo hi : Nat) (left : Int) (w : World) (h : Rules w lo hi v rs) (hhi : hi ≤ w.heap.size) (h0 : 0 ≤ left) (h1 : left ≤ 1048576) :
    Calls Try.prog 78 #[v, .int .i64 left] w fun e w' => e = .returned (.int .i64 (szOut left (bulkR rs))) ∧ Below w.heap.size w w' := by
  obtain ⟨A, c, rfl, hlc, hc, hcell⟩ := h
  unfold maxLen at hc
  have HC := Lib.hid hcell
  clear hcell
  by_cases hn : left < rs.length
  · go_enter Try.func78, Try.ntmps78
    go_wp2
    go_ret
    exact ⟨ret_int (by rw [szOut_neg]; unfold bulkR; omega), Below.refl _ _⟩
  have d0 : decide (left - (rs.length : Int) < 0) = false := decide_eq_false (by omega)
  go_enter Try.func78, Try.ntmps78
  go_wp2
  go_loopw [1, 5] (fun l i wr => ∃ k : Nat, k ≤ rs.length ∧ i = .int .i64 k ∧ l = .int .i64 (left - (rs.length : Int) - (rulesTo rs k : Int)) ∧ 0 ≤ left - (rs.length : Int) - (rulesTo rs k : Int) ∧ Below w.heap.size w wr) (fun _ i _ => rs.length - (intOf i).toNat)
  case atStart => exact ⟨0, by omega, rfl, by simp [rulesTo], by simp [rulesTo]; omega, Below.refl _ _⟩
  case round =>
    obtain ⟨k, hk, rfl, rfl, hle, hbw⟩ := hrel
    have hsw := hbw.size
    by_cases hlt : k < rs.length
    · obtain ⟨b, off, rfl, _, hbh, hcc⟩ := HC.out (by omega)
      obtain ⟨hhs, hc0, u, hc1, hst⟩ := hcc k hlt
      have hs := rulesTo_succ rs k hlt
      have HS := Lib.hid hs
      have hc0' := (hbw.cell (p := ⟨b, off + k * 2, none⟩) (by show b < _; omega)).trans hc0
      have hc1' := (hbw.cell (p := ⟨b, off + k * 2 + 1, none⟩) (by show b < _; omega)).trans hc1
      have hst' := hst.below hbw hhi
      clear hs hcc hc0 hc1 hst
      by_cases ht : left - (rs.length : Int) - (rulesTo rs k : Int) < ((rs[k].head.size + bulkS rs[k].body : Nat) : Int)
      · have e1 := szOut_neg ht
        have E1 := Lib.hid e1
        clear e1
        go_wp2_with (go_at_call 96; refine (szRule_any rs[k] u lo hi _ _ hhs hst' (by omega) (by omega) (by omega)).mono ?_; rintro e w' ⟨rfl, hb2⟩; rw [E1.out])
        go_ret
        exact ⟨ret_int (by rw [szOut_neg]; have := rulesTo_le rs (k + 1); have := HS.out; omega), hbw.trans (hb2.mono hsw)⟩
      · have e1 := szOut_pos ht
        have E1 := Lib.hid e1
        clear e1
        have d1 : decide (left - (rs.length : Int) - (rulesTo rs k : Int) - ((rs[k].head.size + bulkS rs[k].body : Nat) : Int) < 0) = false := decide_eq_false (by omega)
        go_wp2_with (go_at_call 96; refine (szRule_any rs[k] u lo hi _ _ hhs hst' (by omega) (by omega) (by omega)).mono ?_; rintro e w' ⟨rfl, hb2⟩; rw [E1.out])
        go_roundw
        case rel => exact ⟨k + 1, by omega, by go_num, by rw [HS.out]; go_num, by rw [HS.out]; omega, hbw.trans (hb2.mono hsw)⟩
        case measure => simp [intOf]; omega
    · have hks : k = rs.length := by omega
      have HK := Lib.hid hks
      clear hks
      go_wp2
      go_ret
      refine ⟨ret_int ?_, hbw⟩
      have e := HK.out
      subst e
      have := rulesTo_all rs
      rw [szOut_pos (by omega)]
      omega

set_option maxHeartbeats 1000000 in
theorem szGram_any (v : Value) (rs : List RuleD) (lo hi : Nat) (left : Int) (w : World) (h : Rules w lo hi v rs) (hhi : hi ≤ w.heap.size) (h0 : 0 ≤ left) (h1 : left ≤ 1048576) :
    Calls Try.prog 46 #[.agg #[v], .int .i64 left] w fun e w' => e = .returned (.int .i64 (szOut left (bulkR rs))) ∧ Below w.heap.size w w' := by
  have hb : Below w.heap.size w (w.alloc (.cells #[v] 34)) := (Below.refl _ _).alloc (Nat.le_refl _) _
  by_cases ht : left < bulkR rs
  · have e1 := szOut_neg ht
    have E1 := Lib.hid e1
    clear e1
    go_enter Try.func46, Try.ntmps46
    go_wp2_with (go_at_call 78; refine (szRuleS_any v rs lo hi _ _ (h.below hb hhi) (by simp; omega) (by omega) (by omega)).mono ?_; rintro e w' ⟨rfl, hb2⟩; rw [E1.out])
    go_ret
    exact ⟨ret_int (by rw [E1.out]), hb.trans (hb2.mono (by simp))⟩
  · have e1 := szOut_pos ht
    have E1 := Lib.hid e1
    clear e1
    have d1 : decide (left - (bulkR rs : Int) < 0) = false := decide_eq_false (by omega)
    go_enter Try.func46, Try.ntmps46
    go_wp2_with (go_at_call 78; refine (szRuleS_any v rs lo hi _ _ (h.below hb hhi) (by simp; omega) (by omega) (by omega)).mono ?_; rintro e w' ⟨rfl, hb2⟩; rw [E1.out])
    go_ret
    exact ⟨ret_int (by rw [E1.out]), hb.trans (hb2.mono (by simp))⟩
end Go.Proofs.Ytiochjagolijfaa
