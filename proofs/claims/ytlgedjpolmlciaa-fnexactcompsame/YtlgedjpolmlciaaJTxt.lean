import Derived.Test.YtlgedjpolmlciaaJSym
import Derived.Test.YtlgedjpolmlciaaJOwns
import Derived.Deep.OwnRows
import Derived.Lib.AppendStr
import Derived.Laws.IdiomStrings
import Derived.Laws.BytesArg
/- The walks of GramRight: both programs say of a grammar whether it is right by one and the same function, gramB. -/
namespace Go.Proofs.Ytlgedjpolmlciaa
open Go.RowKit

def symOK (s : ByteArray) : Bool := headB s || tokB s
def ruleB (r : RuleD) : Bool := headB r.head && decide (r.body.length ≤ 5) && r.body.all symOK
def gramB (rs : List RuleD) : Bool := decide (1 ≤ rs.length) && decide (rs.length ≤ 20) && rs.all ruleB

theorem ruleB_iff (r : RuleD) : ruleB r = true ↔ headB r.head = true ∧ r.body.length ≤ 5 ∧ ∀ i (h : i < r.body.length), symOK r.body[i] = true := by
  simp only [ruleB, Bool.and_eq_true, decide_eq_true_eq, List.all_eq_true, and_assoc]
  refine ⟨fun ⟨a, b, c⟩ => ⟨a, b, fun i h => c _ (List.getElem_mem h)⟩, fun ⟨a, b, c⟩ => ⟨a, b, fun s hs => ?_⟩⟩
  obtain ⟨i, hi, rfl⟩ := List.getElem_of_mem hs
  exact c i hi
theorem gramB_iff (rs : List RuleD) : gramB rs = true ↔ 1 ≤ rs.length ∧ rs.length ≤ 20 ∧ ∀ i (h : i < rs.length), ruleB rs[i] = true := by
  simp only [gramB, Bool.and_eq_true, decide_eq_true_eq, List.all_eq_true, and_assoc]
  refine ⟨fun ⟨a, b, c⟩ => ⟨a, b, fun i h => c _ (List.getElem_mem h)⟩, fun ⟨a, b, c⟩ => ⟨a, b, fun s hs => ?_⟩⟩
  obtain ⟨i, hi, rfl⟩ := List.getElem_of_mem hs
  exact c i hi
theorem ruleB_f {r : RuleD} (h : ¬ (headB r.head = true ∧ r.body.length ≤ 5 ∧ ∀ i (h : i < r.body.length), symOK r.body[i] = true)) : ruleB r = false := by
  rw [Bool.eq_false_iff]; exact fun e => h ((ruleB_iff r).1 e)
theorem gramB_f {rs : List RuleD} (h : ¬ (1 ≤ rs.length ∧ rs.length ≤ 20 ∧ ∀ i (h : i < rs.length), ruleB rs[i] = true)) : gramB rs = false := by
  rw [Bool.eq_false_iff]; exact fun e => h ((gramB_iff rs).1 e)
theorem symOK_no {r : RuleD} {k : Nat} (h : k < r.body.length) (h1 : headB r.body[k] = false) (h2 : tokB r.body[k] = false) : ruleB r = false :=
  ruleB_f fun ⟨_, _, h3⟩ => by have := h3 k h; unfold symOK at this; rw [h1, h2] at this; cases this

end Go.Proofs.Ytlgedjpolmlciaa

/- Bytes of the call's own, and the text of a grammar, as lists. No program stands in this text but its types' numbers. -/
namespace Go.Proofs.Ytlgedjpolmlciaa.Tx
open Go.RowKit

def bv (b : UInt8) : Value := .int .u8 (b.toNat : Int)
def bs (l : List UInt8) : ByteArray := ⟨l.toArray⟩
theorem bs_size (l : List UInt8) : (bs l).size = l.length := rfl
theorem bs_of (s : ByteArray) : bs s.data.toList = s := rfl
theorem bs_app (a b : ByteArray) : a ++ b = bs (a.data.toList ++ b.data.toList) := ByteArray.mk_append_mk a.data.toList b.data.toList
theorem bs_inj {a b : List UInt8} (h : bs a = bs b) : a = b := by
  have := congrArg (fun x : ByteArray => x.data.toList) h
  simpa [bs] using this
theorem infoB : (Try.prog.info? 5).map (fun i => (i.zero, i.size, i.bytes)) = some (some (.int .u8 0), 1, 1) := by kernel_rfl
/-- these bytes, in a row of the call's own -/
def Bts (w : World) (base : Nat) (v : Value) (l : List UInt8) : Prop := w.ownsRow base 5 1 v l.length (l.map bv)
theorem Bts.nil (w : World) {base : Nat} (hb : base ≤ w.heap.size) : Bts (w.alloc (.cells #[] 5)) base (.slice (some ⟨w.heap.size, 0, none⟩) 0 0) [] := World.ownsRow_lit w #[] 0 hb (by unfold maxLen; omega) rfl
theorem Bts.to {w : World} {base : Nat} {v : Value} {l l' : List UInt8} (h : Bts w base v l) (e : l = l') : Bts w base v l' := e ▸ h
theorem Bts.str {w : World} {base n : Nat} {v : Value} {l : List UInt8} {s : ByteArray} (hn : n = s.size) (h : w.ownsRow base 5 1 v (l.length + n) (l.map bv ++ Lib.strCells s)) : Bts w base v (l ++ s.data.toList) := by
  subst hn
  have e : (l ++ s.data.toList).length = l.length + s.size := by rw [List.length_append]; rfl
  unfold Bts
  rw [e, List.map_append]
  exact h
theorem Bts.one {w : World} {base : Nat} {v : Value} {l : List UInt8} (b : UInt8) (h : w.ownsRow base 5 1 v (l.length + 1) (l.map bv ++ [.int .u8 (b.toNat : Int)])) : Bts w base v (l ++ [b]) := by
  unfold Bts
  rw [List.length_append, List.map_append]
  exact h
theorem one_cell {k : IntKind} (c : Int) : ∀ u ∈ [Value.int k c], u.oneCell' = true := by
  intro u hu
  rw [List.mem_singleton] at hu; subst hu; rfl
/-- a row of another type stands while bytes of the call's own grow -/
theorem row_grown {w w' : World} {g base : Nat} {t : TypeId} {cur : Array Value} {v : Value} {n size : Nat} {e : TypeId} {xs : List Value} (r : Row w g t cur) (ho : w.ownsRow base e size v n xs) (hne : t ≠ e) (hg : w.grownBy w' v.ownBlock) : Row w' g t cur := by
  refine r.same (hg.block g r.lt fun h => ?_)
  rcases ho.2 with ⟨rfl, _⟩ | ⟨g', cap, cur', rfl, _, hh, _⟩
  · simp [Value.ownBlock] at h
  · have : g = g' := by simpa [Value.ownBlock] using h
    subst this
    exact r.apart (t' := e) (cur' := cur') hh hne rfl
theorem below_grown {B base : Nat} {a w w' : World} {v : Value} {n size : Nat} {e : TypeId} {xs : List Value} (h : Below B a w) (ho : w.ownsRow base e size v n xs) (hg : w.grownBy w' v.ownBlock) (hB : B ≤ w.heap.size) (hb : B ≤ base) : Below B a w' :=
  h.grown hg hB (fun k hk => Nat.le_trans hb (ho.lt k hk).1)

/-- the text of a list of symbols, of a rule, of a grammar -/
def symsT (ss : List ByteArray) : List UInt8 := ss.flatMap fun s => 32 :: s.data.toList
def lineT (r : RuleD) : List UInt8 := r.head.data.toList ++ [32, 45, 62] ++ (if r.body = [] then [32, 126] else symsT r.body) ++ [10]
theorem lineT_some {r : RuleD} {l : List UInt8} (h : r.body ≠ []) : l ++ (r.head.data.toList ++ [32, 45, 62]) ++ symsT r.body ++ [10] = l ++ lineT r := by simp [lineT, h, List.append_assoc]
theorem lineT_none {r : RuleD} {l : List UInt8} (h : r.body = []) : l ++ (r.head.data.toList ++ [32, 45, 62]) ++ symsT [] ++ [32, 126] ++ [10] = l ++ lineT r := by simp [lineT, h, symsT, List.append_assoc]
def textT (rs : List RuleD) : List UInt8 := rs.flatMap lineT
theorem symsT_snoc (ss : List ByteArray) (s : ByteArray) : symsT (ss ++ [s]) = symsT ss ++ (32 :: s.data.toList) := by simp [symsT]
theorem symsT_take (ss : List ByteArray) (k : Nat) (h : k < ss.length) : symsT (ss.take (k + 1)) = symsT (ss.take k) ++ (32 :: ss[k].data.toList) := by
  rw [List.take_succ_eq_append_getElem h, symsT_snoc]
theorem textT_take (rs : List RuleD) (k : Nat) (h : k < rs.length) : textT (rs.take (k + 1)) = textT (rs.take k) ++ lineT rs[k] := by
  unfold textT; rw [List.take_succ_eq_append_getElem h, List.flatMap_append]; simp
theorem symB_size {lo hi : Nat} {s : ByteArray} (h : symB lo hi s = true) : s.size ≤ 4 := ((symB_iff lo hi s).1 h).2.1
theorem symOK_size {s : ByteArray} (h : symOK s = true) : s.size ≤ 4 := by
  unfold symOK at h
  rcases Bool.or_eq_true_iff.1 h with h | h
  · exact symB_size h
  · exact symB_size h
theorem symsT_len {ss : List ByteArray} (h : ∀ i (h : i < ss.length), ss[i].size ≤ 4) (k : Nat) (hk : k ≤ ss.length) : (symsT (ss.take k)).length ≤ 5 * k := by
  induction k with
  | zero => simp [symsT]
  | succ k ih =>
    rw [symsT_take ss k (by omega), List.length_append]
    have := ih (by omega)
    have h2 := h k (by omega)
    have h3 : (ss[k].data.toList).length = ss[k].size := rfl
    simp only [List.length_cons]
    omega
/-- a rule whose parts are short -/
def Short (r : RuleD) : Prop := r.head.size ≤ 4 ∧ r.body.length ≤ 5 ∧ ∀ i (h : i < r.body.length), r.body[i].size ≤ 4
theorem short_of {r : RuleD} (h : ruleB r = true) : Short r := by
  obtain ⟨h1, h2, h3⟩ := (ruleB_iff r).1 h
  exact ⟨symB_size h1, h2, fun i hi => symOK_size (h3 i hi)⟩
theorem lineT_len {r : RuleD} (h : Short r) : (lineT r).length ≤ 40 := by
  obtain ⟨h1, h2, h3⟩ := h
  have h4 := symsT_len h3 r.body.length (Nat.le_refl _)
  rw [List.take_length] at h4
  have h5 : (r.head.data.toList).length = r.head.size := rfl
  unfold lineT
  simp only [List.length_append, List.length_cons, List.length_nil]
  split
  · simp only [List.length_cons, List.length_nil]; omega
  · omega
theorem textT_len {rs : List RuleD} (h : ∀ i (h : i < rs.length), Short rs[i]) (k : Nat) (hk : k ≤ rs.length) : (textT (rs.take k)).length ≤ 40 * k := by
  induction k with
  | zero => simp [textT]
  | succ k ih =>
    rw [textT_take rs k (by omega), List.length_append]
    have := ih (by omega)
    have h2 := lineT_len (h k (by omega))
    omega
end Go.Proofs.Ytlgedjpolmlciaa.Tx
