import Derived.Test.YtonfiahihmcmlaaJSetN
import Derived.Test.YtonfiahihmcmlaaJCutI
import Derived.Test.YtonfiahihmcmlaaJWask
import Derived.Test.YtonfiahihmcmlaaJEar
/- The draw of a text that a head comes to: l04Word. -/
namespace Go.Proofs.Ytonfiahihmcmlaa.Dr
open Go.RowKit
open Go.Proofs.Ytonfiahihmcmlaa

theorem Try.infoInt : (Try.prog.info? 3).map (fun i => (i.zero, i.size, i.bytes)) = some (some (.int .i64 0), 1, 8) := by kernel_rfl
theorem one_int (x : Int) : ∀ u ∈ [Value.int .i64 x], u.oneCell' = true := by
  intro u hu
  rw [List.mem_singleton] at hu; subst hu; rfl
def WdC (d : Nat) : Prop := ∀ (rs : List RuleD) (gv : Value) (h : ByteArray) (lo hi p B : Nat) (w : World), Src w p B → p < lo → Rules w lo hi gv rs → hi ≤ w.heap.size → rs.length ≤ 100 → (∀ r ∈ rs, r.body.length ≤ 100) → h.size ≤ maxLen →
  Calls Try.prog 159 #[.pointer (some ⟨p, 0, none⟩), .agg #[gv], .string h, .int .i64 (d : Int)] w (DrawW w p B)

set_option maxRecDepth 100000 in
set_option maxHeartbeats 4000000 in
/-- too deep: nothing is drawn -/
theorem word_zero : WdC 0 := by
  intro rs gv h lo hi p B w hs hp hr hh hl hbl hhm
  generalize hdd : ((0 : Nat) : Int) = dd
  have q0 : decide (dd ≤ 0) = true := decide_eq_true (by omega)
  clear hdd
  obtain ⟨j0, hj0, hy0, hy1, hy2⟩ := info_parts Try.infoInt
  have hpl := hs.lt
  have HR := Lib.hid hr
  have HS := Lib.hid hs
  have HBL := Lib.hid hbl
  obtain ⟨A, c, rfl, hlc, hc, -⟩ := hr
  unfold maxLen at hc
  have B0 := al2 w (.cells #[.slice A rs.length c] 25) (.cells #[] 3)
  have RG := (Row.made w 25 #[.slice A rs.length c]).alloc (.cells #[] 3)
  have I0 : Itn ((w.alloc (.cells #[.slice A rs.length c] 25)).alloc (.cells #[] 3)) (w.heap.size + 1) (.slice (some ⟨w.heap.size + 1, 0, none⟩) 0 0) (rulesOf rs h 0) := by
    have := Itn.lit0 (w.alloc (.cells #[.slice A rs.length c] 25)) (base := w.heap.size + 1) (by simp)
    simpa [rulesOf] using this
  clear hs hbl
  go_enter Try.func159, Try.ntmps159
  go_wp2
  generalize (w.alloc (.cells #[.slice A rs.length c] 25)).alloc (.cells #[] 3) = w0 at B0 RG I0 ⊢
  go_loopw [10, 11] (fun x i wr => ∃ k : Nat, k ≤ rs.length ∧ i = .int .i64 (k : Int) ∧ Itn wr (w.heap.size + 1) x (rulesOf rs h k) ∧ Row wr w.heap.size 25 #[.slice A rs.length c] ∧ Below w.heap.size w wr) (fun _ i _ => rs.length - (intOf i).toNat)
  case atStart => exact ⟨0, by omega, rfl, I0, RG, B0⟩
  case round =>
    obtain ⟨k, hk, rfl, hI, hG, hbw⟩ := hrel
    have hsw := hbw.size
    have c0 := hG.cell 0
    simp at c0
    have hGl := hG.lt
    have HI := Lib.hid hI
    have HG := Lib.hid hG
    by_cases hlt : k < rs.length
    · have hVr := HR.out.below hbw hh
      obtain ⟨b, off, rfl, hb, hc1, hc2, hm, hr0, Bb, db, hr1, hbs⟩ := hVr.at hlt
      have k1 : (k : Int) < (rs.length : Int) := by omega
      have hll := rulesOf_len rs h k
      obtain ⟨Bz, dz, rfl⟩ := hI.shape
      clear hVr hI hG hbs hr1
      by_cases he : rs[k].head = h
      · have d1 : (rs[k].head.toList == h.toList) = true := by rw [list_eqH, decide_eq_true he]
        have HN := Lib.hid (rulesOf_t hlt he)
        clear he
        go_wp2_with (at_builtin; refine wpList_append_own _ rfl _ _ 251 rfl (w.heap.size + 1) 3 j0 _ 1 8 Try.underlying251 hj0 hy0 hy1 hy2 rfl (by decide) _ _ _ rfl (World.ownsRow.alloc HI.out _) ⟨wr.heap.size, 0, none⟩ 1 1 [.int .i64 (k : Int)] rfl rfl (by simpa using cell_one_new wr _ _) (one_int _) (by unfold maxLen; omega) (by omega) (by simp; omega) ?_)
        intro v1 w3 hown1 hg1 _
        have s1 : Itn w3 (w.heap.size + 1) v1 (rulesOf rs h (k + 1)) := by
          rw [HN.out]
          exact Itn.one _ (by simpa using hown1)
        have hG3 := Tx.row_grown (HG.out.alloc _) (World.ownsRow.alloc HI.out _) (by decide) hg1
        have b3 : Below w.heap.size w w3 := Tx.below_grown (hbw.alloc hsw _) (World.ownsRow.alloc HI.out _) hg1 (by simp; omega) (by omega)
        clear hown1 hg1
        go_wp2
        go_roundw
        case rel => exact ⟨k + 1, by omega, by go_num, s1, hG3, b3⟩
        case measure => simp [intOf]; omega
      · have d1 : (rs[k].head.toList == h.toList) = false := by rw [list_eqH, decide_eq_false he]
        have HN := Lib.hid (rulesOf_f hlt he)
        clear he
        go_wp2
        go_roundw
        case rel => exact ⟨k + 1, by omega, by go_num, by rw [HN.out]; exact HI.out, HG.out, hbw⟩
        case measure => simp [intOf]; omega
    · obtain ⟨Bz, dz, rfl⟩ := hI.shape
      have FIN : Hid (DrawW w p B (.returned (.tuple #[.slice none 0 0, .bool false])) wr) := Lib.hid ⟨_, [], false, rfl, World.ownsRow_nil _ _ _ _, (fun h => by cases h), (fun s hs => by cases hs), HS.out.only fun q hq => hbw.block q (by have := HS.out.1; omega), ⟨hbw.os, hbw.tape, hbw.output, hbw.size, fun q hq _ => hbw.block q hq⟩⟩
      clear hI hG
      go_wp2
      exact bodyPost_ret (v := .tuple #[.slice none 0 0, .bool false]) (by simp [results, Try.results159, go_sem]) rfl FIN.out
end Go.Proofs.Ytonfiahihmcmlaa.Dr

/- The walks of the model's l03All, l03Sort, l03Fix, Nullable and Productive. -/
namespace Go.Proofs.Ytonfiahihmcmlaa
open Go.RowKit

theorem Sts.below {w w' : World} {base : Nat} {v : Value} {ss : List ByteArray} (h : Sts w base v ss) (k : Below w.heap.size w w') : Sts w' base v ss := by
  refine ⟨h.1, ?_⟩
  rcases h.2 with a | ⟨g, cap, cur, rfl, hb, hh, r⟩
  · exact .inl a
  · have hr : Row w g 9 cur := hh
    exact .inr ⟨g, cap, cur, rfl, hb, (k.block g hr.lt).trans hh, r⟩
theorem Sts.shape {w : World} {base : Nat} {v : Value} {ss : List ByteArray} (h : Sts w base v ss) : ∃ B d, v = .slice B ss.length d := by
  rcases h.2 with ⟨rfl, h0⟩ | ⟨g, cap, cur, rfl, _⟩
  · exact ⟨none, 0, by rw [h0]⟩
  · exact ⟨_, _, rfl⟩
/-- is all of a body among some, or a token, if these count? -/
def allB (body some : List ByteArray) (tok : Bool) : Bool := body.all fun s => inB some s || (tok && tokB s)
theorem allB_iff (body ins : List ByteArray) (tok : Bool) : allB body ins tok = true ↔ ∀ s ∈ body, (tok && tokB s) = false → s ∈ ins := by
  unfold allB
  rw [List.all_eq_true]
  constructor
  · intro h s hs ht
    have := h s hs
    rw [ht, Bool.or_false] at this
    exact (inB_iff _ _).1 this
  · intro h s hs
    cases ht : (tok && tokB s)
    · rw [(inB_iff _ _).2 (h s hs ht), Bool.true_or]
    · rw [Bool.or_true]
theorem allB_no {body ins : List ByteArray} {tok : Bool} {k : Nat} (h : k < body.length) (h1 : (inB ins body[k] || (tok && tokB body[k])) = false) : allB body ins tok = false := by
  rw [Bool.eq_false_iff]
  intro e
  unfold allB at e
  rw [List.all_eq_true] at e
  have := e _ (List.getElem_mem h)
  rw [h1] at this; cases this
theorem allB_yes {body ins : List ByteArray} {tok : Bool} (h : ∀ k (h : k < body.length), (inB ins body[k] || (tok && tokB body[k])) = true) : allB body ins tok = true := by
  unfold allB
  rw [List.all_eq_true]
  intro s hs
  obtain ⟨k, hk, rfl⟩ := List.getElem_of_mem hs
  exact h k hk

set_option maxRecDepth 100000 in
set_option maxHeartbeats 2000000 in
theorem specAll_any (v x : Value) (body ins : List ByteArray) (tok : Bool) (lo hi lo' hi' : Nat) (w : World) (h : Strs w lo hi v body) (hx : Strs w lo' hi' x ins) :
    Calls Try.prog 169 #[v, x, .bool tok] w fun e w' => e = .returned (.bool (allB body ins tok)) ∧ w = w' := by
  have HX := Lib.hid hx
  obtain ⟨X, xc, rfl, -⟩ := hx
  obtain ⟨A, c, rfl, hlc, hc, hsz, hcell⟩ := h
  unfold maxLen at hc
  have HC := Lib.hid hcell
  have HZ := Lib.hid hsz
  clear hcell hsz
  go_enter Try.func169, Try.ntmps169
  go_wp2
  go_loop [7] (fun i => ∃ k : Nat, k ≤ body.length ∧ i = .int .i64 k ∧ ∀ j (h : j < body.length), j < k → (inB ins body[j] || (tok && tokB body[j])) = true) (fun i => body.length - (intOf i).toNat)
  case atStart => exact ⟨0, by omega, rfl, fun j _ hj => by omega⟩
  case round =>
    obtain ⟨k, hk, rfl, hall⟩ := hrel
    have HA := Lib.hid hall
    clear hall
    by_cases hlt : k < body.length
    · obtain ⟨b, off, rfl, _, _, hcc⟩ := HC.out (by omega)
      have hck := hcc k hlt
      have hks := HZ.out _ (List.getElem_mem hlt)
      clear hcc
      cases hi : inB ins body[k]
      · have HI := Lib.hid hi
        clear hi
        cases tok
        · go_wp2_with fail
          refine (specIn_any _ ins body[k] lo' hi' _ HX.out).mono ?_
          rintro e w1 ⟨rfl, rfl⟩
          rw [HI.out]
          go_wp2
          go_ret
          exact ⟨ret_bool (allB_no hlt (by rw [HI.out]; rfl)).symm, rfl⟩
        · cases ht : tokB body[k]
          · have HT := Lib.hid ht
            clear ht
            go_wp2_with fail
            refine (specIn_any _ ins body[k] lo' hi' _ HX.out).mono ?_
            rintro e w1 ⟨rfl, rfl⟩
            rw [HI.out]
            go_wp2_with fail
            refine (specIsToken_any _ _ hks).mono ?_
            rintro e w1 ⟨rfl, rfl⟩
            rw [HT.out]
            go_wp2
            go_ret
            exact ⟨ret_bool (allB_no hlt (by rw [HI.out, HT.out]; rfl)).symm, rfl⟩
          · have HT := Lib.hid ht
            clear ht
            go_wp2_with fail
            refine (specIn_any _ ins body[k] lo' hi' _ HX.out).mono ?_
            rintro e w1 ⟨rfl, rfl⟩
            rw [HI.out]
            go_wp2_with fail
            refine (specIsToken_any _ _ hks).mono ?_
            rintro e w1 ⟨rfl, rfl⟩
            rw [HT.out]
            go_wp2
            go_round
            case rel => exact ⟨k + 1, by omega, by go_num, fun j hj hjk => by
              by_cases e : j = k
              · subst e; rw [HT.out]; simp
              · exact HA.out j hj (by omega)⟩
            case measure => simp [intOf]; omega
      · have HI := Lib.hid hi
        clear hi
        go_wp2_with fail
        refine (specIn_any _ ins body[k] lo' hi' _ HX.out).mono ?_
        rintro e w1 ⟨rfl, rfl⟩
        rw [HI.out]
        go_wp2
        go_round
        case rel => exact ⟨k + 1, by omega, by go_num, fun j hj hjk => by
          by_cases e : j = k
          · subst e; rw [HI.out]; simp
          · exact HA.out j hj (by omega)⟩
        case measure => simp [intOf]; omega
    · go_wp2
      go_ret
      exact ⟨ret_bool (allB_yes fun k hk => HA.out k hk (by omega)).symm, rfl⟩
end Go.Proofs.Ytonfiahihmcmlaa

/- A list of rules that grows by append, its bodies in blocks of their own. -/
namespace Go.Proofs.Ytonfiahihmcmlaa
open Go.RowKit
open Tx (bs)

/-- a rule, the value of its body, and the block of that -/
def flatX (xs : List (RuleD × Value × Nat)) : List Value := xs.flatMap fun x => [.string x.1.head, x.2.1]
def Grow (w : World) (base : Nat) (v : Value) (xs : List (RuleD × Value × Nat)) : Prop :=
  w.ownsRow base 49 2 v xs.length (flatX xs) ∧
    (∀ x ∈ xs, OwnS w x.2.2 x.2.1 x.1.body ∧ x.1.head.size ≤ maxLen ∧ (x.1.body ≠ [] → base ≤ x.2.2 ∧ x.2.2 < w.heap.size)) ∧
    xs.Pairwise fun a b => a.1.body ≠ [] → b.1.body ≠ [] → a.2.2 ≠ b.2.2
theorem flatX_snoc (xs : List (RuleD × Value × Nat)) (x : RuleD × Value × Nat) : flatX (xs ++ [x]) = flatX xs ++ [.string x.1.head, x.2.1] := by simp [flatX]
theorem flatX_len (xs : List (RuleD × Value × Nat)) : (flatX xs).length = xs.length * 2 := by
  induction xs with
  | nil => rfl
  | cons x l ih => simp only [flatX, List.flatMap_cons, List.length_append, List.length_cons, List.length_nil] at ih ⊢; omega
theorem flatX_at (xs : List (RuleD × Value × Nat)) (i : Nat) (h : i < xs.length) : (flatX xs)[i * 2]? = some (.string xs[i].1.head) ∧ (flatX xs)[i * 2 + 1]? = some xs[i].2.1 := by
  induction xs generalizing i with
  | nil => simp at h
  | cons x l ih =>
    cases i with
    | zero => exact ⟨rfl, rfl⟩
    | succ i =>
      have := ih i (by simpa using h)
      have e : flatX (x :: l) = .string x.1.head :: x.2.1 :: flatX l := rfl
      rw [e]
      rw [show (i + 1) * 2 = i * 2 + 1 + 1 by omega]
      simpa using this
theorem Grow.nil (w : World) (base : Nat) : Grow w base (.slice none 0 0) [] := ⟨World.ownsRow_nil _ _ _ _, by simp, List.Pairwise.nil⟩
theorem Grow.move {w w' : World} {base : Nat} {v : Value} {xs : List (RuleD × Value × Nat)} (h : Grow w base v xs) (hs : w.heap.size ≤ w'.heap.size)
    (h1 : ∀ g, v.ownBlock = some g → w'.heap[g]? = w.heap[g]?) (h2 : ∀ x ∈ xs, x.1.body ≠ [] → w'.heap[x.2.2]? = w.heap[x.2.2]?) : Grow w' base v xs := by
  obtain ⟨a, b, c⟩ := h
  refine ⟨⟨a.1, ?_⟩, fun x hx => ?_, c⟩
  · rcases a.2 with a2 | ⟨g, cap, cur, rfl, hb, hh, r⟩
    · exact .inl a2
    · exact .inr ⟨g, cap, cur, rfl, hb, (h1 g rfl).trans hh, r⟩
  · obtain ⟨b1, b2, b3⟩ := b x hx
    exact ⟨b1.keep (h2 x hx), b2, fun hn => by have := b3 hn; omega⟩
theorem Grow.below {w w' : World} {base : Nat} {v : Value} {xs : List (RuleD × Value × Nat)} (h : Grow w base v xs) (k : Below w.heap.size w w') : Grow w' base v xs :=
  h.move k.size (fun g hg => k.block g (h.1.lt g hg).2) (fun x hx hn => k.block _ ((h.2.1 x hx).2.2 hn).2)
theorem Grow.away {w : World} {base : Nat} {v : Value} {xs : List (RuleD × Value × Nat)} (h : Grow w base v xs) {p : Addr} {t : TypeId} {cur : Array Value} (hr : Row w p.block t cur) (h1 : t ≠ 49) (h2 : t ≠ 9) (u : Value) : Grow (w.setCell p u) base v xs := by
  refine h.move (by simp [World.setCell]) (fun g hg => Below.heap_setCell _ _ _ _ ?_) (fun x hx hn => Below.heap_setCell _ _ _ _ ?_)
  · rcases h.1.2 with ⟨rfl, _⟩ | ⟨g', cap, c', rfl, _, hh, _⟩
    · simp [Value.ownBlock] at hg
    · have : g' = g := by simpa [Value.ownBlock] using hg
      subst this
      exact fun e => hr.apart (t' := 49) (cur' := c') hh h1 e.symm
  · obtain ⟨A, c, _, _, _, _, p5⟩ := (h.2.1 x hx).1
    obtain ⟨off, cu, _, q1, _⟩ := p5 (List.length_pos_iff.2 hn)
    exact fun e => hr.apart q1 h2 e.symm
theorem Grow.snoc {w w' : World} {base : Nat} {v v' : Value} {xs : List (RuleD × Value × Nat)} {r : RuleD} {u : Value} {g : Nat} (h : Grow w base v xs)
    (ho : w'.ownsRow base 49 2 v' (xs.length + 1) (flatX xs ++ [.string r.head, u])) (hg : w.grownBy w' v.ownBlock) (hr : OwnS w g u r.body) (hh : r.head.size ≤ maxLen)
    (hb : r.body ≠ [] → base ≤ g ∧ g < w.heap.size) (hd : r.body ≠ [] → ∀ x ∈ xs, x.1.body ≠ [] → x.2.2 ≠ g) : Grow w' base v' (xs ++ [(r, u, g)]) := by
  obtain ⟨a, b, c⟩ := h
  have keep : ∀ (g : Nat) (u : Value) (ss : List ByteArray), OwnS w g u ss → ss ≠ [] → w'.heap[g]? = w.heap[g]? := fun g u ss hs hn => by
    refine hg.block g (hs.lt hn) fun e => ?_
    obtain ⟨A, c, _, _, _, _, p5⟩ := hs
    obtain ⟨off, cu, _, q1, _⟩ := p5 (List.length_pos_iff.2 hn)
    rcases a.2 with ⟨rfl, _⟩ | ⟨g', cap, c', rfl, _, hh, _⟩
    · simp [Value.ownBlock] at e
    · have : g = g' := by simpa [Value.ownBlock] using e
      subst this
      exact q1.apart (t' := 49) (cur' := c') hh (by decide) rfl
  refine ⟨?_, fun x hx => ?_, ?_⟩
  · rw [flatX_snoc, List.length_append]; exact ho
  · rw [List.mem_append, List.mem_singleton] at hx
    rcases hx with hx | rfl
    · obtain ⟨b1, b2, b3⟩ := b x hx
      exact ⟨b1.keep fun hn => keep _ _ _ b1 hn, b2, fun hn => by have := b3 hn; have := hg.size; omega⟩
    · exact ⟨hr.keep fun hn => keep _ _ _ hr hn, hh, fun hn => by have := hb hn; have := hg.size; show base ≤ g ∧ g < _; omega⟩
  · rw [List.pairwise_append]
    refine ⟨c, by simp, fun x hx y hy => ?_⟩
    rw [List.mem_singleton] at hy
    subst hy
    exact fun h1 h2 => hd h2 x hx h1
theorem Grow.done {w : World} {base : Nat} {v : Value} {xs : List (RuleD × Value × Nat)} (h : Grow w base v xs) : OwnR w base w.heap.size v (xs.map (·.1)) := by
  obtain ⟨a, b, c⟩ := h
  rcases a.2 with ⟨rfl, h0⟩ | ⟨g, cap, cur, rfl, hb, hh, hc, hm, hs, ht⟩
  · obtain rfl : xs = [] := List.eq_nil_of_length_eq_zero h0
    exact ⟨none, 0, rfl, Nat.le_refl _, by unfold maxLen; omega, fun hp => by simp at hp⟩
  · have hr : Row w g 49 cur := hh
    refine ⟨_, cap, by rw [List.length_map], by rw [List.length_map]; exact hc, hm, fun hp => ?_⟩
    refine ⟨g, cur, fun i => (xs[i]?.map fun x => x.2.2).getD 0, rfl, hb, hr.lt, hr, fun i hi => ?_, fun i j hij hj => ?_⟩
    · rw [List.length_map] at hi
      obtain ⟨b1, b2, b3⟩ := b xs[i] (List.getElem_mem hi)
      obtain ⟨f1, f2⟩ := flatX_at xs i hi
      have cell : ∀ j, j < xs.length * 2 → cur[j]? = (flatX xs)[j]? := fun j hj => by
        rw [← ht, List.getElem?_take_of_lt hj, Array.getElem?_toList]
      simp only [List.getElem_map, List.getElem?_eq_getElem hi, Option.map_some, Option.getD_some]
      exact ⟨b2, by rw [cell _ (by omega)]; exact f1, xs[i].2.1, by rw [cell _ (by omega)]; exact f2, b1, b3⟩
    · rw [List.length_map] at hj
      have hi : i < xs.length := by omega
      simp only [List.getElem_map, List.getElem?_eq_getElem hi, List.getElem?_eq_getElem hj, Option.map_some, Option.getD_some]
      exact List.pairwise_iff_getElem.1 c i j hi hj hij

theorem readAll_snoc {ls : List (List UInt8)} {l : List UInt8} {rs : List RuleD} {r : RuleD} (h : readAll ls = some rs) (hr : readR l = some r) : readAll (ls ++ [l]) = some (rs ++ [r]) := by
  induction ls generalizing rs with
  | nil => unfold readAll at h; injection h with h; subst h; simp [readAll, hr]
  | cons x ls ih =>
    unfold readAll at h
    split at h
    · cases h
    · rename_i a ha
      split at h
      · cases h
      · rename_i b hb
        injection h with h
        subst h
        rw [List.cons_append]
        unfold readAll
        rw [ha, ih hb]
        rfl
theorem readAll_bad {ls : List (List UInt8)} {i : Nat} (h : i < ls.length) (hr : readR ls[i] = none) : readAll ls = none := by
  induction ls generalizing i with
  | nil => simp at h
  | cons x ls ih =>
    unfold readAll
    cases i with
    | zero =>
      simp only [List.getElem_cons_zero] at hr
      rw [hr]
    | succ i =>
      simp only [List.getElem_cons_succ] at hr
      rw [ih (by simpa using h) hr]
      cases readR x <;> rfl
/-- the lines of a text -/
def linesOf (t : ByteArray) : List (List UInt8) := (splitB 10 t.data.toList).dropLast
theorem linesOf_len (t : ByteArray) : (linesOf t).length = (pieces 10 t).length - 1 := by unfold linesOf; rw [List.length_dropLast, pieces_length]
theorem linesOf_at {t : ByteArray} {k : Nat} (h : k < (linesOf t).length) (h' : k < (pieces 10 t).length) : (pieces 10 t)[k].data.toList = (linesOf t)[k] := by
  rw [pieces_at h']
  unfold linesOf at h ⊢
  rw [List.getElem_dropLast, List.getElem?_eq_getElem (by rw [List.length_dropLast] at h; omega)]
  rfl
theorem last_at {t : ByteArray} (h : (pieces 10 t).length - 1 < (pieces 10 t).length) : (pieces 10 t)[(pieces 10 t).length - 1].data.toList = (splitB 10 t.data.toList).getLastD [] := by
  rw [pieces_at h, pieces_length, List.getLastD_eq_getLast?, List.getLast?_eq_getElem?]
theorem parse_last {t : ByteArray} (h : (splitB 10 t.data.toList).getLastD [] ≠ []) : parseT t.data.toList = none := by
  unfold parseT; simp only; rw [if_pos h]
theorem parse_bad {t : ByteArray} (h : readAll (linesOf t) = none) : parseT t.data.toList = none := by
  unfold parseT; simp only
  split
  · rfl
  · unfold linesOf at h; rw [h]
theorem parse_wrong {t : ByteArray} {rs : List RuleD} (h : readAll (linesOf t) = some rs) (hg : gramB rs = false) : parseT t.data.toList = none := by
  unfold parseT; simp only
  split
  · rfl
  · unfold linesOf at h; rw [h]; simp [hg]
theorem parse_right {t : ByteArray} {rs : List RuleD} (hl : (splitB 10 t.data.toList).getLastD [] = []) (h : readAll (linesOf t) = some rs) (hg : gramB rs = true) : parseT t.data.toList = some rs := by
  unfold parseT; simp only
  rw [if_neg (by rw [hl]; simp)]
  unfold linesOf at h; rw [h]; simp [hg]
end Go.Proofs.Ytonfiahihmcmlaa
