/- Looks, pieces and goals as values, and as keys of maps. -/
import Derived.Test.YtcgmnpfeiiomgaaJKMap
namespace Go.Proofs.Ytcgmnpfeiiomgaa
open Go.RowKit Go.Maps

def lookV (l : Look) : Value := .agg #[.int .i64 (l.rule : Int), .int .i64 (l.done : Int), .int .i64 (l.fr : Int), .int .i64 (l.at' : Int)]
def pieceV (h : ByteArray) (i k : Nat) : Value := .agg #[.string h, .int .i64 (i : Int), .int .i64 (k : Int)]
def goalV (h : ByteArray) (i : Nat) : Value := .agg #[.string h, .int .i64 (i : Int)]
def lookK (l : Look) : Lit := .string (keyBytes [.int .i64 (l.rule : Int), .int .i64 (l.done : Int), .int .i64 (l.fr : Int), .int .i64 (l.at' : Int)])
def pieceK (h : ByteArray) (i k : Nat) : Lit := .string (keyBytes [.string h.data.toList, .int .i64 (i : Int), .int .i64 (k : Int)])
def goalK (h : ByteArray) (i : Nat) : Lit := .string (keyBytes [.string h.data.toList, .int .i64 (i : Int)])
/-- the look's numbers are small -/
def Look.ok (l : Look) : Prop := l.rule ≤ 1000 ∧ l.done ≤ 1000 ∧ l.fr ≤ 1000 ∧ l.at' ≤ 1000

theorem laidOut4 : laidOutB Try.prog = true := by kernel_rfl
theorem rowLook : (142 : TypeId) < Try.prog.types.size := of_decide_eq_true (by kernel_rfl)
theorem rowPiece : (140 : TypeId) < Try.prog.types.size := of_decide_eq_true (by kernel_rfl)
theorem rowGoal : (148 : TypeId) < Try.prog.types.size := of_decide_eq_true (by kernel_rfl)
theorem lawLook : WideMaps.KeyLaw Try.prog 142 := deep_law_laid laidOut4 (m := 2) (by omega) rowLook (by kernel_rfl) (by rw [Try.underlying142])
theorem lawPiece : WideMaps.KeyLaw Try.prog 140 := deep_law_laid laidOut4 (m := 2) (by omega) rowPiece (by kernel_rfl) (by rw [Try.underlying140])
theorem lawGoal : WideMaps.KeyLaw Try.prog 148 := deep_law_laid laidOut4 (m := 2) (by omega) rowGoal (by kernel_rfl) (by rw [Try.underlying148])
theorem kLook : Keyed Try.prog 142 := Keyed.of_law lawLook
theorem kPiece : Keyed Try.prog 140 := Keyed.of_law lawPiece
theorem kGoal : Keyed Try.prog 148 := Keyed.of_law lawGoal
theorem typeLook : Try.prog.keyType 142 = true := by kernel_rfl
theorem typePiece : Try.prog.keyType 140 = true := by kernel_rfl
theorem typeGoal : Try.prog.keyType 148 = true := by kernel_rfl
theorem cellsLook : Try.prog.cellsOf 142 = 4 := by kernel_rfl
theorem cellsPiece : Try.prog.cellsOf 140 = 3 := by kernel_rfl
theorem cellsGoal : Try.prog.cellsOf 148 = 2 := by kernel_rfl
theorem cellsInt4 : Try.prog.cellsOf 3 = 1 := by kernel_rfl
theorem cellsStr4 : Try.prog.cellsOf 9 = 1 := by kernel_rfl
theorem wf_nat {n : Nat} (h : n ≤ 1000) : (Lit.int .i64 (n : Int)).wf = true := WalkArith.wf_i64 (by omega)
section
variable {P : Program} {t ti ts : TypeId} {d : Nat}
theorem lits_int (h : P.underlying ti = some (.int .i64)) {n : Int} (hw : (Lit.int .i64 n).wf = true) : P.keyLits (d + 1) ti [.int .i64 n] = some [.int .i64 n] := by simp [Program.keyLits, h, hw]
theorem lits_str (h : P.underlying ts = some .string) {s : ByteArray} (hs : s.size ≤ maxLen) : P.keyLits (d + 1) ts [.string s] = some [.string s.data.toList] := by simp [Program.keyLits, h, hs]
theorem lits4 {f0 f1 f2 f3 : Field} (hu : P.underlying t = some (.struct #[f0, f1, f2, f3])) (hn : #[f0, f1, f2, f3].all (fun f : Field => f.name != "_") = true) (hc : P.cellsOf t = 4) (hci : P.cellsOf ti = 1) (t0 : f0.type = ti) (t1 : f1.type = ti) (t2 : f2.type = ti) (t3 : f3.type = ti) (o0 : f0.offset = 0) (o1 : f1.offset = 1) (o2 : f2.offset = 2) (o3 : f3.offset = 3)
    {a b c e : Value} {la lb lc le : List Lit} (ha : P.keyLits d ti [a] = some la) (hb : P.keyLits d ti [b] = some lb) (hcc : P.keyLits d ti [c] = some lc) (he : P.keyLits d ti [e] = some le) : P.keyLits (d + 1) t [a, b, c, e] = some (la ++ lb ++ lc ++ le) := by
  simp only [Program.keyLits, hu, hn, hc, List.length_cons, List.length_nil, and_true]
  simp [t0, t1, t2, t3, o0, o1, o2, o3, hci, ha, hb, hcc, he]
theorem lits3 {f0 f1 f2 : Field} (hu : P.underlying t = some (.struct #[f0, f1, f2])) (hn : #[f0, f1, f2].all (fun f : Field => f.name != "_") = true) (hc : P.cellsOf t = 3) (hcs : P.cellsOf ts = 1) (hci : P.cellsOf ti = 1) (t0 : f0.type = ts) (t1 : f1.type = ti) (t2 : f2.type = ti) (o0 : f0.offset = 0) (o1 : f1.offset = 1) (o2 : f2.offset = 2)
    {a b c : Value} {la lb lc : List Lit} (ha : P.keyLits d ts [a] = some la) (hb : P.keyLits d ti [b] = some lb) (hcc : P.keyLits d ti [c] = some lc) : P.keyLits (d + 1) t [a, b, c] = some (la ++ lb ++ lc) := by
  simp only [Program.keyLits, hu, hn, hc, List.length_cons, List.length_nil, and_true]
  simp [t0, t1, t2, o0, o1, o2, hci, hcs, ha, hb, hcc]
theorem lits2 {f0 f1 : Field} (hu : P.underlying t = some (.struct #[f0, f1])) (hn : #[f0, f1].all (fun f : Field => f.name != "_") = true) (hc : P.cellsOf t = 2) (hcs : P.cellsOf ts = 1) (hci : P.cellsOf ti = 1) (t0 : f0.type = ts) (t1 : f1.type = ti) (o0 : f0.offset = 0) (o1 : f1.offset = 1)
    {a b : Value} {la lb : List Lit} (ha : P.keyLits d ts [a] = some la) (hb : P.keyLits d ti [b] = some lb) : P.keyLits (d + 1) t [a, b] = some (la ++ lb) := by
  simp only [Program.keyLits, hu, hn, hc, List.length_cons, List.length_nil, and_true]
  simp [t0, t1, o0, o1, hci, hcs, ha, hb]
theorem keyOf_wide {fs : Array Field} (hu : P.underlying t = some (.struct fs)) (hk : P.keyType t = true) {v : Value} (hf : v.formed P t = true) {m : Nat} (hm : P.types.size = m + 1) {ls : List Lit} (h : P.keyLits (m + 1 + 1) t v.cells.toList = some ls) : keyOf P t v = some (.string (keyBytes ls)) := by
  unfold keyOf
  rw [hu]
  simp [hk, hf, hm, h]
theorem formed_agg {fs : Array Field} (hu : P.underlying t = some (.struct fs)) {xs : Array Value} (hc : P.cellsOf t = xs.size) : (Value.agg xs).formed P t = true := by simp [Value.formed, hu, hc]
end
theorem types4 : Try.prog.types.size = (242 - 1) + 1 := by kernel_rfl
theorem keyLook {l : Look} (h : l.ok) : keyOf Try.prog 142 (lookV l) = some (lookK l) :=
  keyOf_wide Try.underlying142 typeLook (formed_agg (xs := _) Try.underlying142 (by simpa using cellsLook)) types4
    (lits4 Try.underlying142 (by kernel_rfl) cellsLook cellsInt4 rfl rfl rfl rfl rfl rfl rfl rfl (lits_int Try.underlying3 (wf_nat h.1)) (lits_int Try.underlying3 (wf_nat h.2.1)) (lits_int Try.underlying3 (wf_nat h.2.2.1)) (lits_int Try.underlying3 (wf_nat h.2.2.2)))
theorem keyPiece {h : ByteArray} {i k : Nat} (hh : h.size ≤ maxLen) (hi : i ≤ 1000) (hk : k ≤ 1000) : keyOf Try.prog 140 (pieceV h i k) = some (pieceK h i k) :=
  keyOf_wide Try.underlying140 typePiece (formed_agg (xs := _) Try.underlying140 (by simpa using cellsPiece)) types4
    (lits3 Try.underlying140 (by kernel_rfl) cellsPiece cellsStr4 cellsInt4 rfl rfl rfl rfl rfl rfl (lits_str Try.underlying9 hh) (lits_int Try.underlying3 (wf_nat hi)) (lits_int Try.underlying3 (wf_nat hk)))
theorem keyGoal {h : ByteArray} {i : Nat} (hh : h.size ≤ maxLen) (hi : i ≤ 1000) : keyOf Try.prog 148 (goalV h i) = some (goalK h i) :=
  keyOf_wide Try.underlying148 typeGoal (formed_agg (xs := _) Try.underlying148 (by simpa using cellsGoal)) types4
    (lits2 Try.underlying148 (by kernel_rfl) cellsGoal cellsStr4 cellsInt4 rfl rfl rfl rfl (lits_str Try.underlying9 hh) (lits_int Try.underlying3 (wf_nat hi)))
theorem lookV_inj {a b : Look} (h : lookV a = lookV b) : a = b := by
  cases a; cases b
  simp only [lookV, Value.agg.injEq, Array.mk.injEq, List.cons.injEq, Value.int.injEq, true_and, and_true, Int.ofNat_inj] at h
  obtain ⟨h1, h2, h3, h4⟩ := h
  subst h1 h2 h3 h4; rfl
theorem lookK_inj {a b : Look} (ha : a.ok) (hb : b.ok) (h : lookK a = lookK b) : a = b := lookV_inj (kLook.inj (keyLook ha) (h ▸ keyLook hb))
theorem pieceK_inj {h h' : ByteArray} {i k i' k' : Nat} (hh : h.size ≤ maxLen) (hi : i ≤ 1000) (hk : k ≤ 1000) (hh' : h'.size ≤ maxLen) (hi' : i' ≤ 1000) (hk' : k' ≤ 1000) (e : pieceK h i k = pieceK h' i' k') : h = h' ∧ i = i' ∧ k = k' := by
  have := kPiece.inj (keyPiece hh hi hk) (e ▸ keyPiece hh' hi' hk')
  simp only [pieceV, Value.agg.injEq, Array.mk.injEq, List.cons.injEq, Value.int.injEq, Value.string.injEq, true_and, and_true, Int.ofNat_inj] at this
  exact this
theorem goalK_inj {h h' : ByteArray} {i i' : Nat} (hh : h.size ≤ maxLen) (hi : i ≤ 1000) (hh' : h'.size ≤ maxLen) (hi' : i' ≤ 1000) (e : goalK h i = goalK h' i') : h = h' ∧ i = i' := by
  have := kGoal.inj (keyGoal hh hi) (e ▸ keyGoal hh' hi')
  simp only [goalV, Value.agg.injEq, Array.mk.injEq, List.cons.injEq, Value.int.injEq, Value.string.injEq, true_and, and_true, Int.ofNat_inj] at this
  exact this
end Go.Proofs.Ytcgmnpfeiiomgaa
