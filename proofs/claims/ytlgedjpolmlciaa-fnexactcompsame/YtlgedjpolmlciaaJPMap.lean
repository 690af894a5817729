import Derived.Test.YtlgedjpolmlciaaJCmi
import Derived.Deep.LoopGhost
import Derived.Test.YtlgedjpolmlciaaJOwns
import Derived.MapKept
import Derived.LaidEql
import Derived.WalkKit
/- Lists of Rules and of Mades held against each other: slices.EqualFunc. -/
namespace Go.Proofs.Ytlgedjpolmlciaa
open Go.RowKit

set_option maxRecDepth 100000 in
set_option maxHeartbeats 4000000 in
theorem equalRules_any (x y : List RuleD) (v u : Value) (lo hi lo' hi' : Nat) (w : World) (hv : Rules w lo hi v x) (hu : Rules w lo' hi' u y) (hh : hi ≤ w.heap.size) (hh' : hi' ≤ w.heap.size) :
    Calls Try.prog 29 #[v, u, .func (.func 30) #[] #[]] w fun e w' => ∃ a, e = .returned (.bool a) ∧ (a = true ↔ x = y) ∧ Below w.heap.size w w' := by
  obtain ⟨A, c, rfl, hlc, hc, hcell⟩ := hv
  obtain ⟨B, d, rfl, hld, hd, hcell'⟩ := hu
  have HC := Lib.hid hcell
  have HC' := Lib.hid hcell'
  unfold maxLen at hc hd
  clear hcell hcell'
  by_cases hn : x.length = y.length
  · have n0 : ((x.length : Int) != (y.length : Int)) = false := by rw [bne_eq_false_iff_eq]; omega
    have HN := Lib.hid hn
    clear hn
    go_enter Try.func29, Try.ntmps29
    go_wp2
    go_loopg [17] x.length (fun gk i wr => ∃ k : Nat, k ≤ x.length ∧ i = .int .i64 k ∧ Below w.heap.size w wr ∧ (∀ j (h : j < x.length) (h' : j < y.length), j < k → x[j] = y[j]) ∧ gk = x.length - k)
    case atStart => exact ⟨0, by omega, rfl, Below.refl _ _, (fun j _ _ hj => by omega), rfl⟩
    case round =>
      obtain ⟨k, hk, rfl, hbw, hall, rfl⟩ := hrel
      have HA := Lib.hid hall
      clear hall
      have hsw := hbw.size
      by_cases hlt : k < x.length
      · have hlt' : k < y.length := by have := HN.out; omega
        obtain ⟨b, off, rfl, _, hbh, hcc⟩ := HC.out (by omega)
        obtain ⟨q1, hc0, u1, hc1, hs1⟩ := hcc k hlt
        obtain ⟨b', off', rfl, _, hbh', hcc'⟩ := HC'.out (by omega)
        obtain ⟨q2, hd0, u2, hd1, hs2⟩ := hcc' k hlt'
        have k0 := (hbw.cell (p := ⟨b, off + k * 2, none⟩) (by show b < _; omega)).trans hc0
        have k1 := (hbw.cell (p := ⟨b, off + k * 2 + 1, none⟩) (by show b < _; omega)).trans hc1
        have m0 := (hbw.cell (p := ⟨b', off' + k * 2, none⟩) (by show b' < _; omega)).trans hd0
        have m1 := (hbw.cell (p := ⟨b', off' + k * 2 + 1, none⟩) (by show b' < _; omega)).trans hd1
        have i1 : (k : Int) < (x.length : Int) := by omega
        have i2 : (k : Int) < (y.length : Int) := by omega
        have hb1 : b < wr.heap.size := by omega
        have hb2 : b' < wr.heap.size := by omega
        have S1 := Lib.hid (hs1.below hbw hh)
        have S2 := Lib.hid (hs2.below hbw hh')
        obtain ⟨A2, c2, rfl, -⟩ := hs1
        obtain ⟨B2, d2, rfl, -⟩ := hs2
        have HBW := Lib.hid hbw
        clear hcc hcc' hc0 hc1 hd0 hd1
        go_wp2_with fail
        refine (sameRule_any x[k] y[k] _ _ lo hi lo' hi' _ (S1.out.below (al2 _ _ _) (by omega)) (S2.out.below (al2 _ _ _) (by omega)) (by simp; omega) (by simp; omega)).mono ?_
        rintro e w1 ⟨r, rfl, hr, b1⟩
        have HB3 := Lib.hid (HBW.out.trans (((al2 _ _ _).trans (b1.mono (by simp; omega)) : Below wr.heap.size wr w1).mono hsw))
        have HR := Lib.hid hr
        clear hr b1
        cases r with
        | true =>
          go_wp2
          go_roundg (x.length - (k + 1))
          case rel => exact ⟨k + 1, by omega, by go_num, HB3.out, (fun j hj hj' hjk => by
            by_cases e : j = k
            · subst e; exact HR.out.1 trivial
            · exact HA.out j hj hj' (by omega)), rfl⟩
          case measure => omega
        | false =>
          have HE : Hid (x ≠ y) := Lib.hid (fun h => by
            subst h
            have := HR.out.2 rfl
            cases this)
          go_wp2
          go_ret
          exact ⟨false, rfl, ⟨(fun h => by cases h), fun h => absurd h HE.out⟩, HB3.out⟩
      · have HE : Hid (x = y) := Lib.hid (List.ext_getElem HN.out fun i hi hi' => HA.out i hi hi' (by omega))
        go_wp2
        go_ret
        exact ⟨true, rfl, ⟨fun _ => HE.out, fun _ => rfl⟩, hbw⟩
  · have n0 : ((x.length : Int) != (y.length : Int)) = true := by rw [bne_iff_ne]; omega
    go_enter Try.func29, Try.ntmps29
    go_wp2
    go_ret
    exact ⟨false, rfl, ⟨(fun h => by cases h), fun h => absurd (congrArg List.length h) hn⟩, Below.refl _ _⟩
def SymsEq (x y : List MadeD) : Prop := x.length = y.length ∧ ∀ i (h : i < x.length) (h' : i < y.length), SymEq x[i] y[i]
set_option maxRecDepth 100000 in
set_option maxHeartbeats 4000000 in
theorem equalSymbols_any (x y : List MadeD) (v u : Value) (z z' : Bool) (lo hi lo' hi' : Nat) (w : World) (hv : DM z w lo hi v x) (hu : DM z' w lo' hi' u y) (hh : hi ≤ w.heap.size) (hh' : hi' ≤ w.heap.size) :
    Calls Try.prog 31 #[v, u, .func (.func 32) #[] #[]] w fun e w' => ∃ a, e = .returned (.bool a) ∧ (a = true ↔ SymsEq x y) ∧ Below w.heap.size w w' := by
  obtain ⟨A, c, rfl, hlc, hc, hcell⟩ := hv
  obtain ⟨B, d, rfl, hld, hd, hcell'⟩ := hu
  have HC := Lib.hid hcell
  have HC' := Lib.hid hcell'
  unfold maxLen at hc hd
  clear hcell hcell'
  by_cases hn : x.length = y.length
  · have n0 : ((x.length : Int) != (y.length : Int)) = false := by rw [bne_eq_false_iff_eq]; omega
    have HN := Lib.hid hn
    clear hn
    go_enter Try.func31, Try.ntmps31
    go_wp2
    go_loopg [17] x.length (fun gk i wr => ∃ k : Nat, k ≤ x.length ∧ i = .int .i64 k ∧ Below w.heap.size w wr ∧ (∀ j (h : j < x.length) (h' : j < y.length), j < k → SymEq x[j] y[j]) ∧ gk = x.length - k)
    case atStart => exact ⟨0, by omega, rfl, Below.refl _ _, (fun j _ _ hj => by omega), rfl⟩
    case round =>
      obtain ⟨k, hk, rfl, hbw, hall, rfl⟩ := hrel
      have HA := Lib.hid hall
      clear hall
      have hsw := hbw.size
      by_cases hlt : k < x.length
      · have hlt' : k < y.length := by have := HN.out; omega
        obtain ⟨b, off, rfl, _, hbh, _, hcc⟩ := HC.out (by omega)
        obtain ⟨q1, _, hc0, u1, x1, hc1, hc2, hc3, hc4, hs1, hk1⟩ := hcc k hlt
        obtain ⟨b', off', rfl, _, hbh', _, hcc'⟩ := HC'.out (by omega)
        obtain ⟨q2, _, hd0, u2, x2, hd1, hd2, hd3, hd4, hs2, hk2⟩ := hcc' k hlt'
        have k0 := (hbw.cell (p := ⟨b, off + k * 5, none⟩) (by show b < _; omega)).trans hc0
        have k1 := (hbw.cell (p := ⟨b, off + k * 5 + 1, none⟩) (by show b < _; omega)).trans hc1
        have k2 := (hbw.cell (p := ⟨b, off + k * 5 + 2, none⟩) (by show b < _; omega)).trans hc2
        have k3 := (hbw.cell (p := ⟨b, off + k * 5 + 3, none⟩) (by show b < _; omega)).trans hc3
        have k4 := (hbw.cell (p := ⟨b, off + k * 5 + 4, none⟩) (by show b < _; omega)).trans hc4
        have m0 := (hbw.cell (p := ⟨b', off' + k * 5, none⟩) (by show b' < _; omega)).trans hd0
        have m1 := (hbw.cell (p := ⟨b', off' + k * 5 + 1, none⟩) (by show b' < _; omega)).trans hd1
        have m2 := (hbw.cell (p := ⟨b', off' + k * 5 + 2, none⟩) (by show b' < _; omega)).trans hd2
        have m3 := (hbw.cell (p := ⟨b', off' + k * 5 + 3, none⟩) (by show b' < _; omega)).trans hd3
        have m4 := (hbw.cell (p := ⟨b', off' + k * 5 + 4, none⟩) (by show b' < _; omega)).trans hd4
        have i1 : (k : Int) < (x.length : Int) := by omega
        have i2 : (k : Int) < (y.length : Int) := by omega
        have hb1 : b < wr.heap.size := by omega
        have hb2 : b' < wr.heap.size := by omega
        have S1 := Lib.hid (hs1.below hbw hh)
        have S2 := Lib.hid (hs2.below hbw hh')
        obtain ⟨A2, c2, rfl, -⟩ := hs1
        obtain ⟨B2, d2, rfl, -⟩ := hs2
        obtain ⟨A3, c3, U3, rfl, -⟩ := hk1.parts
        obtain ⟨B3, d3, V3, rfl, -⟩ := hk2.parts
        have HBW := Lib.hid hbw
        clear hcc hcc' hc0 hc1 hc2 hc3 hc4 hd0 hd1 hd2 hd3 hd4 hk1 hk2
        go_wp2_with fail
        have step := sameSymbols_any x[k] y[k] (.slice A2 x[k].body.length c2) (.slice B2 y[k].body.length d2) (.slice A3 x[k].term.kids.length c3) (.slice B3 y[k].term.kids.length d3) lo hi lo' hi' _ (S1.out.below (al2 wr (.cells #[.string x[k].head, .slice A2 x[k].body.length c2, .int .i64 x[k].term.kind, .int .i64 x[k].term.num, .slice A3 x[k].term.kids.length c3] 53) (.cells #[.string y[k].head, .slice B2 y[k].body.length d2, .int .i64 y[k].term.kind, .int .i64 y[k].term.num, .slice B3 y[k].term.kids.length d3] 53)) (by omega)) (S2.out.below (al2 _ _ _) (by omega)) (by simp; omega) (by simp; omega) ⟨_, _, _, rfl⟩ ⟨_, _, _, rfl⟩
        unfold mdV at step
        refine step.mono ?_
        clear step
        rintro e w1 ⟨r, rfl, hr, b1⟩
        have HB3 := Lib.hid (HBW.out.trans (((al2 _ _ _).trans (b1.mono (by simp; omega)) : Below wr.heap.size wr w1).mono hsw))
        have HR := Lib.hid hr
        clear hr b1
        cases r with
        | true =>
          go_wp2
          go_roundg (x.length - (k + 1))
          case rel => exact ⟨k + 1, by omega, by go_num, HB3.out, (fun j hj hj' hjk => by
            by_cases e : j = k
            · subst e; exact HR.out.1 trivial
            · exact HA.out j hj hj' (by omega)), rfl⟩
          case measure => omega
        | false =>
          have HE : Hid (¬ SymsEq x y) := Lib.hid (fun h => by
            have := HR.out.2 (h.2 k hlt hlt')
            cases this)
          go_wp2
          go_ret
          exact ⟨false, rfl, ⟨(fun h => by cases h), fun h => absurd h HE.out⟩, HB3.out⟩
      · have HE : Hid (SymsEq x y) := Lib.hid ⟨HN.out, fun i hi hi' => HA.out i hi hi' (by omega)⟩
        go_wp2
        go_ret
        exact ⟨true, rfl, ⟨fun _ => HE.out, fun _ => rfl⟩, hbw⟩
  · have n0 : ((x.length : Int) != (y.length : Int)) = true := by rw [bne_iff_ne]; omega
    go_enter Try.func31, Try.ntmps31
    go_wp2
    go_ret
    exact ⟨false, rfl, ⟨(fun h => by cases h), fun h => absurd h.1 hn⟩, Below.refl _ _⟩
end Go.Proofs.Ytlgedjpolmlciaa

/- Maps of the call's own whose keys may be addresses: what stands at each key, by a list of keys and values. No program stands in this text. -/
namespace Go.Proofs.Ytlgedjpolmlciaa
open Go.RowKit

section
variable {κ ν : Type} {kv : κ → Value} {vv : ν → Value} {w w' : World} {b : Nat}
/-- block b is a map that holds just l -/
def PM (w : World) (b : Nat) (kv : κ → Value) (vv : ν → Value) (l : List (κ × ν)) : Prop :=
  ∃ es clock, w.heap[b]? = some (.map es clock) ∧ es.toList.map (fun e => (e.key, e.val)) = l.map fun x => (kv x.1, vv x.2)

theorem PM.lt {l : List (κ × ν)} (h : PM w b kv vv l) : b < w.heap.size := by
  obtain ⟨es, c, h, _⟩ := h
  rcases Nat.lt_or_ge b w.heap.size with h1 | h1
  · exact h1
  · rw [Array.getElem?_eq_none h1] at h; cases h
theorem PM.keep {l : List (κ × ν)} (h : PM w b kv vv l) (e : w'.heap[b]? = w.heap[b]?) : PM w' b kv vv l := by
  obtain ⟨es, c, h1, h2⟩ := h
  exact ⟨es, c, e.trans h1, h2⟩
theorem PM.made (w : World) : PM (w.alloc (.map #[] 0)) w.heap.size kv vv ([] : List (κ × ν)) := ⟨#[], 0, by show (w.heap.push _)[w.heap.size]? = _; simp, rfl⟩

end

section
variable {κ ν : Type} [DecidableEq κ]
def lk : List (κ × ν) → κ → Option ν
  | [], _ => none
  | x :: l, p => if p = x.1 then some x.2 else lk l p
def up : List (κ × ν) → κ → ν → List (κ × ν)
  | [], p, v => [(p, v)]
  | x :: l, p, v => if p = x.1 then (p, v) :: l else x :: up l p v
theorem lk_up (l : List (κ × ν)) (p q : κ) (v : ν) : lk (up l p v) q = if q = p then some v else lk l q := by
  induction l with
  | nil => simp [up, lk]
  | cons x l ih =>
    unfold up
    by_cases h : p = x.1
    · rw [if_pos h]
      simp only [lk]
      by_cases hq : q = p
      · simp [hq]
      · rw [if_neg hq, if_neg hq, if_neg (fun e => hq (by rw [e, h]))]
    · rw [if_neg h]
      simp only [lk]
      by_cases hq : q = x.1
      · rw [if_pos hq, if_neg (fun e => h (by rw [← e, hq])), if_pos hq]
      · rw [if_neg hq, ih, if_neg hq]
theorem lk_up_same (l : List (κ × ν)) (p : κ) (v : ν) : lk (up l p v) p = some v := by rw [lk_up, if_pos rfl]
theorem lk_up_other (l : List (κ × ν)) {p q : κ} (v : ν) (h : q ≠ p) : lk (up l p v) q = lk l q := by rw [lk_up, if_neg h]
theorem mem_up {l : List (κ × ν)} {p : κ} {v : ν} {x : κ × ν} (h : x ∈ up l p v) : x.1 = p ∨ x ∈ l := by
  induction l with
  | nil => simp [up] at h; left; rw [h]
  | cons y l ih =>
    unfold up at h
    split at h
    · rcases List.mem_cons.1 h with h | h
      · left; rw [h]
      · right; exact List.mem_cons_of_mem _ h
    · rcases List.mem_cons.1 h with h | h
      · right; rw [h]; exact List.mem_cons_self
      · rcases ih h with h | h
        · left; exact h
        · right; exact List.mem_cons_of_mem _ h
theorem up_length (l : List (κ × ν)) (p : κ) (v : ν) : (up l p v).length ≤ l.length + 1 := by
  induction l with
  | nil => simp [up]
  | cons y l ih => unfold up; split <;> simp; omega

/-- how keys of a type are told apart -/
structure KeyK (P : Program) (kt : TypeId) (kv : κ → Value) (Ok : World → κ → Prop) : Prop where
  und : ∃ d, P.underlying kt = some d ∧ ∀ a b, Instr.sameNow d a b = none
  eq : ∀ w p q, Ok w p → Ok w q → (Op.equal kt (kv p) (kv q)).run P w = .ok (decide (p = q)) w
  chk : ∀ w p e, (Instr.checkKey e 10000 kt (kv p)).run P w = .ok () w
  bits : ∀ p, Instr.sameBits 10000 (kv p) (kv p) = true

variable {P : Program} {kt et t : TypeId} {kv : κ → Value} {Ok : World → κ → Prop} {vv : ν → Value} {w w' : World} {b : Nat}

theorem askP_any (K : KeyK P kt kv Ok) (p : κ) (hp : Ok w p) : ∀ (l : List (κ × ν)) (es : List MapEntry) (i : Nat), es.map (fun e => (e.key, e.val)) = l.map (fun x => (kv x.1, vv x.2)) → (∀ x ∈ l, Ok w x.1) →
    (lk l p = none ∧ (Instr.findAsking kt (kv p) es i).run P w = .ok none w ∧ ∀ v, up l p v = l ++ [(p, v)]) ∨
    (∃ j v e, lk l p = some v ∧ (Instr.findAsking kt (kv p) es i).run P w = .ok (some (i + j, vv v)) w ∧ es[j]? = some e ∧ e.key = kv p ∧ ∀ v', (es.modify j fun e => { e with key := kv p, val := vv v' }).map (fun e => (e.key, e.val)) = (up l p v').map (fun x => (kv x.1, vv x.2)))
  | [], [], i, _, _ => Or.inl ⟨rfl, by simp [Instr.findAsking], fun _ => rfl⟩
  | [], _ :: _, _, h, _ => by simp at h
  | _ :: _, [], _, h, _ => by simp at h
  | x :: l, e :: es, i, h, hok => by
    simp only [List.map_cons, List.cons.injEq, Prod.mk.injEq] at h
    obtain ⟨⟨h1, h2⟩, h3⟩ := h
    have he := K.eq w p x.1 hp (hok x List.mem_cons_self)
    by_cases hx : p = x.1
    · right
      refine ⟨0, x.2, e, by simp [lk, hx], ?_, rfl, by rw [h1, hx], fun v' => ?_⟩
      · rw [decide_eq_true hx] at he
        simp [Instr.findAsking, h1, he, h2]
      · simp [up, hx, h3]
    · rw [decide_eq_false hx] at he
      rcases askP_any K p hp l es (i + 1) h3 (fun y hy => hok y (List.mem_cons_of_mem _ hy)) with ⟨a1, a2, a3⟩ | ⟨j, v, e', a1, a2, a3, a4, a5⟩
      · left
        refine ⟨by simp [lk, hx, a1], by simp [Instr.findAsking, h1, he, a2], fun v => by simp [up, hx, a3]⟩
      · right
        refine ⟨j + 1, v, e', by simp [lk, hx, a1], ?_, by simpa using a3, a4, fun v' => ?_⟩
        · simp [Instr.findAsking, h1, he, a2]; omega
        · simp [up, hx, a5, h1, h2]

theorem findP_any (K : KeyK P kt kv Ok) (p : κ) (hp : Ok w p) (l : List (κ × ν)) (es : List MapEntry) (h : es.map (fun e => (e.key, e.val)) = l.map (fun x => (kv x.1, vv x.2))) (hok : ∀ x ∈ l, Ok w x.1) :
    (lk l p = none ∧ (Instr.findKey kt (kv p) es).run P w = .ok none w ∧ ∀ v, up l p v = l ++ [(p, v)]) ∨
    (∃ j v e, lk l p = some v ∧ (Instr.findKey kt (kv p) es).run P w = .ok (some (j, vv v)) w ∧ es[j]? = some e ∧ e.key = kv p ∧ ∀ v', (es.modify j fun e => { e with key := kv p, val := vv v' }).map (fun e => (e.key, e.val)) = (up l p v').map (fun x => (kv x.1, vv x.2))) := by
  obtain ⟨d, hd, hno⟩ := K.und
  have hf : (Instr.findKey kt (kv p) es).run P w = (Instr.findAsking kt (kv p) es 0).run P w := by
    cases es with
    | nil => simp [Instr.findKey, run_underlying hd, Instr.findNow, Instr.findAsking]
    | cons e es => simp [Instr.findKey, run_underlying hd, Instr.findNow, hno]
  rw [hf]
  simpa using askP_any K p hp l es 0 h hok

theorem PM.look {l : List (κ × ν)} (h : PM w b kv vv l) (K : KeyK P kt kv Ok) (ht : P.underlying t = some (.map kt et)) (hok : ∀ x ∈ l, Ok w x.1) {z : Value} (hz : (zeroValue et).run P w = .ok z w) (p : κ) (hp : Ok w p) :
    (Instr.lookup t (.map (some b)) (kv p) false).run P w = .ok ((lk l p).elim z vv) w := by
  obtain ⟨es, c, h1, h2⟩ := h
  rcases findP_any K p hp l es.toList h2 hok with ⟨a1, a2, _⟩ | ⟨j, v, e, a1, a2, _⟩
  · simp [Instr.lookup, run_underlying ht, MapKept.run_getObj_map h1, K.chk, a2, a1, hz]
  · simp [Instr.lookup, run_underlying ht, MapKept.run_getObj_map h1, K.chk, a2, a1]
theorem PM.look2 {l : List (κ × ν)} (h : PM w b kv vv l) (K : KeyK P kt kv Ok) (ht : P.underlying t = some (.map kt et)) (hok : ∀ x ∈ l, Ok w x.1) {z : Value} (hz : (zeroValue et).run P w = .ok z w) (p : κ) (hp : Ok w p) :
    (Instr.lookup t (.map (some b)) (kv p) true).run P w = .ok (.tuple #[(lk l p).elim z vv, .bool (lk l p).isSome]) w := by
  obtain ⟨es, c, h1, h2⟩ := h
  rcases findP_any K p hp l es.toList h2 hok with ⟨a1, a2, _⟩ | ⟨j, v, e, a1, a2, _⟩
  · simp [Instr.lookup, run_underlying ht, MapKept.run_getObj_map h1, K.chk, a2, a1, hz]
  · simp [Instr.lookup, run_underlying ht, MapKept.run_getObj_map h1, K.chk, a2, a1]
theorem PM.put {l : List (κ × ν)} (h : PM w b kv vv l) (K : KeyK P kt kv Ok) (ht : P.underlying t = some (.map kt et)) (hok : ∀ x ∈ l, Ok w x.1) (p : κ) (hp : Ok w p) (v : ν) :
    ∃ w', (Instr.mapUpdate t (.map (some b)) (kv p) (vv v)).run P w = .ok () w' ∧ PM w' b kv vv (up l p v) ∧ Mid b (b + 1) w w' ∧ w'.heap.size = w.heap.size := by
  have hlt := h.lt
  obtain ⟨es, c, h1, h2⟩ := h
  have mid : ∀ o : Obj, Mid b (b + 1) w { w with heap := w.heap.setIfInBounds b o } := fun o => ⟨rfl, rfl, rfl, by simp, fun k hk hb => by
    show (w.heap.setIfInBounds b o)[k]? = _
    rw [Array.getElem?_setIfInBounds_ne (by omega)]⟩
  have at' : ∀ o : Obj, ({ w with heap := w.heap.setIfInBounds b o } : World).heap[b]? = some o := fun o => by
    show (w.heap.setIfInBounds b o)[b]? = _
    rw [Array.getElem?_setIfInBounds_self_of_lt hlt]
  rcases findP_any K p hp l es.toList h2 hok with ⟨a1, a2, a3⟩ | ⟨j, v0, e, a1, a2, a3, a4, a5⟩
  · refine ⟨_, by simp [Instr.mapUpdate, run_underlying ht, MapKept.run_getObj_map h1, K.chk, a2, MapKept.run_setObj_map _ h1]; rfl, ⟨_, _, at' _, ?_⟩, mid _, by simp⟩
    rw [a3]; simp [h2]
  · have hj : es[j]? = some e := by simpa using a3
    refine ⟨_, by simp [Instr.mapUpdate, run_underlying ht, MapKept.run_getObj_map h1, K.chk, a2, hj, a4, Instr.keyThatStays, K.bits, MapKept.run_setObj_map _ h1]; rfl, ⟨_, _, at' _, ?_⟩, mid _, by simp⟩
    rw [← a5 v]; simp
end
end Go.Proofs.Ytlgedjpolmlciaa
