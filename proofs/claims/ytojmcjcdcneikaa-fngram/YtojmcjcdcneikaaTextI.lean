/- The program's text of a grammar: ruleText, GramText. -/
import Derived.Test.YtojmcjcdcneikaaTextS
import Derived.Test.YtojmcjcdcneikaaShelf
import Derived.Lib.Join
import Derived.Lib.OthersKept
namespace Go.Proofs.Ytojmcjcdcneikaa
open Go.RowKit
open Tx (Bts bv bs textT lineT symsT Short)

theorem join_syms {ss : List ByteArray} (h : ss ≠ []) : 32 :: Lib.join (ss.map (·.data.toList)) [32] = symsT ss := by
  cases ss with
  | nil => exact absurd rfl h
  | cons a l =>
    rw [List.map_cons, Lib.join_cons]
    simp only [symsT, List.flatMap_cons, Lib.joinTail, List.map_map, List.cons_append]
    congr 2
theorem join_len {ss : List ByteArray} (h : ∀ i (h : i < ss.length), ss[i].size ≤ 4) (hn : ss.length ≤ 5) : (Lib.join (ss.map (·.data.toList)) [32]).length ≤ 25 := by
  by_cases h0 : ss = []
  · subst h0; simp [Lib.join_nil]
  · have h1 := congrArg List.length (join_syms h0)
    have h2 := Tx.symsT_len h ss.length (Nat.le_refl _)
    rw [List.take_length] at h2
    simp only [List.length_cons] at h1
    omega
/-- a builder stands while memory behind it is made -/
theorem builder_below {T e : TypeId} {B b : Nat} {bs : List Value} {w w' : World} (h : Lib.IsBuilderF T e B b bs w) (k : Below w.heap.size w w') : Lib.IsBuilderF T e B b bs w' := by
  have hat : ∀ p, Lib.BuilderAtF T e B b p bs w → Lib.BuilderAtF T e B b p bs w' := fun p hp => by
    have hlt := hp.lt
    obtain ⟨hB, v, hb, hown, hne⟩ := hp
    refine ⟨hB, v, (k.block b hlt).trans hb, ?_, hne⟩
    exact hown.kept (row := none) ⟨k.os, k.tape, k.output, k.size, fun i hi _ => k.block i hi⟩ (by
      rcases hown.2 with ⟨rfl, _⟩ | ⟨g, cap, cur, fz, rfl, _⟩
      · exact .inl rfl
      · exact .inr (by simp [Value.ownBlock]))
  exact h.elim (fun x => .inl (hat _ x)) (fun x => .inr (hat _ x))
theorem writeString_any (B b : Nat) (l : List UInt8) (s : ByteArray) (w : World) (h : Lib.IsBuilderF 54 5 B b (Lib.byteCells l) w) (hlen : l.length + s.size ≤ 140737488355328) (hBw : B ≤ w.heap.size) :
    Calls Try.prog 43 #[.pointer (some ⟨b, 0, none⟩), .string s] w fun e w' => e = .returned (.tuple #[.int .i64 s.size, .nilIface]) ∧ Lib.IsBuilderF 54 5 B b (Lib.byteCells (l ++ s.data.toList)) w' ∧ Below B w w' :=
  Calls.mono (Any.Builder_WriteString_k { Try.lays156 with } Try.Builder_Extra_156 B b (Lib.byteCells l) s w h (by rw [Lib.byteCells_length]; exact hlen) hBw) fun _ _ ⟨h1, h2, h3, _⟩ =>
    ⟨h1, .inr (by rw [Lib.byteCells_append]; exact h2), h3⟩
/-- the pieces of a line -/
theorem line_some {r : RuleD} {j : List UInt8} (h : 32 :: j = symsT r.body) (hne : r.body ≠ []) : r.head ++ ⟨#[32]⟩ ++ ⟨#[45, 62]⟩ ++ ⟨#[32]⟩ ++ bs j ++ ⟨#[10]⟩ = bs (lineT r) := by
  simp only [Tx.bs_app]
  simp [lineT, hne, ← h, Tx.bs, List.append_assoc]
theorem line_none {r : RuleD} (hne : r.body = []) : r.head ++ ⟨#[32]⟩ ++ ⟨#[45, 62]⟩ ++ ⟨#[32]⟩ ++ ⟨#[126]⟩ ++ ⟨#[10]⟩ = bs (lineT r) := by
  simp only [Tx.bs_app]
  simp [lineT, hne, Tx.bs, List.append_assoc]

set_option maxRecDepth 100000 in
set_option maxHeartbeats 1000000 in
theorem ruleText_any (r : RuleD) (u : Value) (lo hi : Nat) (w : World) (h : Strs w lo hi u r.body) (hh : hi ≤ w.heap.size) (hs : Short r) :
    Calls Try.prog 44 #[.agg #[.string r.head, u]] w fun e w' => e = .returned (.string (bs (lineT r))) ∧ Below w.heap.size w w' := by
  obtain ⟨A, c, rfl, hlc, hc, hsz, hcell⟩ := h
  unfold maxLen at hc
  obtain ⟨s1, s2, s3⟩ := hs
  have hb := al1 w (.cells #[.string r.head, .slice A r.body.length c] 56)
  by_cases h0 : r.body = []
  · have HL := Lib.hid (line_none h0)
    have hl0 : (r.body.length : Int) = 0 := by rw [h0]; rfl
    have d0 : decide ((0 : Int) < (r.body.length : Int)) = false := decide_eq_false (by omega)
    clear hcell hsz s3 h0
    go_enter Try.func44, Try.ntmps44
    go_wp2
    go_ret
    exact ⟨ret_strT HL.out, hb⟩
  · have hp : 0 < r.body.length := List.length_pos_iff.2 h0
    obtain ⟨b, off, rfl, _, hbh, hcc⟩ := hcell hp
    have HC : Hid (∀ (j : Nat) x, r.body[j]? = some x → (w.alloc (.cells #[.string r.head, .slice (some ⟨b, off, none⟩) r.body.length c] 56)).cell? ⟨b, off + j, none⟩ = some (.string x)) := Lib.hid (by
      intro j x hx
      obtain ⟨hj, rfl⟩ := List.getElem?_eq_some_iff.1 hx
      exact (hb.cell (p := ⟨b, off + j, none⟩) (by show b < _; omega)).trans (hcc j hj))
    have hjl := join_len s3 s2
    have HL := Lib.hid (line_some (join_syms h0) h0)
    have R0 := Row.made w 56 #[.string r.head, .slice (some ⟨b, off, none⟩) r.body.length c]
    clear hcell hsz s3 h0 hcc
    go_enter Try.func44, Try.ntmps44
    go_wp2_with fail
    refine (Try.strings_Join b off c r.body ⟨#[32]⟩ _ HC.out (by simp; omega) (by omega) hlc (by show (Lib.join _ [32]).length ≤ _; omega)).mono ?_
    rintro e w1 ⟨rfl, b1⟩
    have c0 := (R0.below b1 (by simp)).cell 0
    simp at c0
    have hjl2 : (bs (Lib.join (r.body.map (·.data.toList)) [32])).size ≤ 25 := hjl
    go_wp2
    go_ret
    exact ⟨ret_strT HL.out, hb.trans (b1.mono (by simp))⟩

set_option maxRecDepth 100000 in
set_option maxHeartbeats 2000000 in
theorem implGramText_any (rs : List RuleD) (v : Value) (lo hi : Nat) (w : World) (h : Rules w lo hi v rs) (hh : hi ≤ w.heap.size) :
    Calls Try.prog 12 #[.agg #[v]] w fun e w' => e = .returned (.string (gramT rs)) ∧ Below w.heap.size w w' := by
  have HV := Lib.hid h
  obtain ⟨A, c, rfl, hlc, hc, hcell⟩ := h
  unfold maxLen at hc
  have HC := Lib.hid hcell
  clear hcell
  have hb := al1 w (.cells #[.slice A rs.length c] 25)
  have R0 := Row.made w 25 #[.slice A rs.length c]
  cases hq : gramB rs
  · rw [gramT_f hq]
    have HQ := Lib.hid hq
    clear hq
    go_enter Try.func12, Try.ntmps12
    go_wp2_with fail
    refine (implGramRight_any rs _ lo hi _ (HV.out.below hb hh) (by simp; omega)).mono ?_
    rintro e w1 ⟨rfl, b1⟩
    rw [HQ.out]
    go_wp2
    go_ret
    exact ⟨rfl, hb.trans (b1.mono (by simp))⟩
  · rw [gramT_t hq]
    have HG := Lib.hid ((gramB_iff rs).1 hq)
    have HSH : Hid (∀ i (h : i < rs.length), Short rs[i]) := Lib.hid (fun i hi => Tx.short_of (HG.out.2.2 i hi))
    have HQ := Lib.hid hq
    have hl20 := HG.out.2.1
    clear hq
    go_enter Try.func12, Try.ntmps12
    go_wp2_with fail
    refine (implGramRight_any rs _ lo hi _ (HV.out.below hb hh) (by simp; omega)).mono ?_
    rintro e w1 ⟨rfl, b1⟩
    rw [HQ.out]
    have c1 := (R0.below b1 (by simp)).cell 0
    simp at c1
    have hb1 := hb.trans (b1.mono (by simp))
    have z1 := hb1.size
    have hlt1 : w.heap.size < w1.heap.size := by have := b1.size; simp at this; omega
    clear b1 R0 hb
    go_wp2
    go_loopw [5, 12] (fun _ i wr => ∃ (k : Nat), k ≤ rs.length ∧ i = .int .i64 k ∧ Lib.IsBuilderF 54 5 w1.heap.size w1.heap.size (Lib.byteCells (textT (rs.take k))) wr ∧ Below w.heap.size w wr ∧ w1.heap.size ≤ wr.heap.size) (fun _ i _ => rs.length - (intOf i).toNat)
    case atStart => exact ⟨0, by omega, rfl, Lib.IsBuilderF.of (by simpa [textT, Lib.byteCells] using Lib.fresh_isBuilder 54 5 w1), hb1.trans ((al1 _ _).mono z1), by simp⟩
    case round =>
      obtain ⟨k, hk, rfl, hI, hbw, hz⟩ := hrel
      have hsw := hbw.size
      have htl := Tx.textT_len HSH.out k hk
      by_cases hlt : k < rs.length
      · obtain ⟨b, off, rfl, _, hbh, hcc⟩ := HC.out (by omega)
        obtain ⟨_, hc0, u, hc1, hst⟩ := hcc k hlt
        have hc0' := (hbw.cell (p := ⟨b, off + k * 2, none⟩) (by show b < _; omega)).trans hc0
        have hc1' := (hbw.cell (p := ⟨b, off + k * 2 + 1, none⟩) (by show b < _; omega)).trans hc1
        have hst' := hst.below hbw hh
        clear hcc hc0 hc1 hst
        have HS := Lib.hid hst'
        obtain ⟨A', c', rfl, -⟩ := hst'
        have ha := al1 wr (.cells #[.string rs[k].head, .slice A' rs[k].body.length c'] 56)
        have hshk := HSH.out k hlt
        have hll : (bs (lineT rs[k])).size ≤ 40 := Tx.lineT_len hshk
        have HT := Lib.hid (Tx.textT_take rs k hlt)
        go_wp2_with fail
        refine (ruleText_any rs[k] _ lo hi _ (HS.out.below ha (by omega)) (by simp; omega) hshk).mono ?_
        rintro e w2 ⟨rfl, b2⟩
        have hbw2 : Below w.heap.size w w2 := (hbw.trans (ha.mono hsw)).trans (b2.mono (by simp; omega))
        have hI2 := builder_below (builder_below hI ha) b2
        have z2 : wr.heap.size + 1 ≤ w2.heap.size := by have := b2.size; simpa using this
        go_wp2_with fail
        refine (writeString_any w1.heap.size w1.heap.size (textT (rs.take k)) (bs (lineT rs[k])) _ hI2 (by omega) (by omega)).mono ?_
        rintro e w3 ⟨rfl, hI3, b3⟩
        have hI3' : Lib.IsBuilderF 54 5 w1.heap.size w1.heap.size (Lib.byteCells (textT (rs.take (k + 1)))) w3 := by rw [HT.out]; exact hI3
        have z3 := b3.size
        clear hI hI2 hI3
        go_wp2
        go_roundw
        case rel => exact ⟨k + 1, by omega, by go_num, hI3', hbw2.trans (b3.mono z1), by omega⟩
        case measure => simp [intOf]; omega
      · have hks : k = rs.length := by omega
        subst hks
        rw [List.take_length] at hI
        go_wp2_with fail
        refine (Try.Builder_String_any_k w1.heap.size w1.heap.size (textT rs) _ hI hz).mono ?_
        rintro e w2 ⟨rfl, _, b2, _⟩
        go_wp2
        go_ret
        exact ⟨rfl, hbw.trans (b2.mono z1)⟩
end Go.Proofs.Ytojmcjcdcneikaa
