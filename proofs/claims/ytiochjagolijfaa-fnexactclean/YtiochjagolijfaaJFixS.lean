import Derived.Test.YtiochjagolijfaaJSetN
import Derived.Lib.AppendStr
import Derived.Laws.IdiomStrings
import Derived.Laws.BytesArg
import Derived.Test.YtiochjagolijfaaJRightb
/- Bytes of the call's own, and the text of a grammar, as lists. No program stands in this text but its types' numbers. -/
namespace Go.Proofs.Ytiochjagolijfaa.Tx
open Go.RowKit

def bv (b : UInt8) : Value := .int .u8 (b.toNat : Int)
def bs (l : List UInt8) : ByteArray := ⟨l.toArray⟩
theorem bs_size (l : List UInt8) : (bs l).size = l.length := rfl
theorem bs_of (s : ByteArray) : bs s.data.toList = s := rfl
theorem bs_app (a b : ByteArray) : a ++ b = bs (a.data.toList ++ b.data.toList) := ByteArray.mk_append_mk a.data.toList b.data.toList
theorem bs_inj {a b : List UInt8} (h : bs a = bs b) : a = b := by
  have := congrArg (fun x : ByteArray => x.data.toList) h
  simpa [bs] using this
theorem infoB : (Try.prog.info? 5).map (fun i => (i.zero, i.size, i.bytes)) = some (some (.int .u8 0), 1, 1) := by kernel_rfl
/-- these bytes, in a row of the call's own -/
def Bts (w : World) (base : Nat) (v : Value) (l : List UInt8) : Prop := w.ownsRow base 5 1 v l.length (l.map bv)
theorem Bts.nil (w : World) {base : Nat} (hb : base ≤ w.heap.size) : Bts (w.alloc (.cells #[] 5)) base (.slice (some ⟨w.heap.size, 0, none⟩) 0 0) [] := World.ownsRow_lit w #[] 0 hb (by unfold maxLen; omega) rfl
theorem Bts.to {w : World} {base : Nat} {v : Value} {l l' : List UInt8} (h : Bts w base v l) (e : l = l') : Bts w base v l' := e ▸ h
theorem Bts.str {w : World} {base n : Nat} {v : Value} {l : List UInt8} {s : ByteArray} (hn : n = s.size) (h : w.ownsRow base 5 1 v (l.length + n) (l.map bv ++ Lib.strCells s)) : Bts w base v (l ++ s.data.toList) := by
  subst hn
  have e : (l ++ s.data.toList).length = l.length + s.size := by rw [List.length_append]; rfl
  unfold Bts
  rw [e, List.map_append]
  exact h
theorem Bts.one {w : World} {base : Nat} {v : Value} {l : List UInt8} (b : UInt8) (h : w.ownsRow base 5 1 v (l.length + 1) (l.map bv ++ [.int .u8 (b.toNat : Int)])) : Bts w base v (l ++ [b]) := by
  unfold Bts
  rw [List.length_append, List.map_append]
  exact h
theorem Bts.conv {w : World} {base : Nat} {v : Value} {l : List UInt8} (h : Bts w base v l) : (convert 111 9 v).run Try.prog w = .ok (.string (bs l)) w := by
  rcases h.2 with ⟨rfl, h0⟩ | ⟨g, cap, cur, rfl, hb, hh, hc, hm, hs, ht⟩
  · obtain rfl : l = [] := List.eq_nil_of_length_eq_zero h0
    exact run_convert_bytes_nil w 111 5 Try.underlying111 Try.underlying5 0 0 9 Try.underlying9
  · exact run_convert_bytes_back w 111 9 5 ⟨g, 0, none⟩ cap l Try.underlying111 Try.underlying5 Try.underlying9 (fun j hj => by
      refine World.ownsRow.cells h (g := g) rfl j _ ?_
      rw [List.getElem?_map, List.getElem?_eq_getElem hj]; rfl)
theorem one_cell {k : IntKind} (c : Int) : ∀ u ∈ [Value.int k c], u.oneCell' = true := by
  intro u hu
  rw [List.mem_singleton] at hu; subst hu; rfl
/-- a row of another type stands while bytes of the call's own grow -/
theorem row_grown {w w' : World} {g base : Nat} {t : TypeId} {cur : Array Value} {v : Value} {n size : Nat} {e : TypeId} {xs : List Value} (r : Row w g t cur) (ho : w.ownsRow base e size v n xs) (hne : t ≠ e) (hg : w.grownBy w' v.ownBlock) : Row w' g t cur := by
  refine r.same (hg.block g r.lt fun h => ?_)
  rcases ho.2 with ⟨rfl, _⟩ | ⟨g', cap, cur', rfl, _, hh, _⟩
  · simp [Value.ownBlock] at h
  · have : g = g' := by simpa [Value.ownBlock] using h
    subst this
    exact r.apart (t' := e) (cur' := cur') hh hne rfl
theorem below_grown {B base : Nat} {a w w' : World} {v : Value} {n size : Nat} {e : TypeId} {xs : List Value} (h : Below B a w) (ho : w.ownsRow base e size v n xs) (hg : w.grownBy w' v.ownBlock) (hB : B ≤ w.heap.size) (hb : B ≤ base) : Below B a w' :=
  h.grown hg hB (fun k hk => Nat.le_trans hb (ho.lt k hk).1)

/-- the text of a list of symbols, of a rule, of a grammar -/
def symsT (ss : List ByteArray) : List UInt8 := ss.flatMap fun s => 32 :: s.data.toList
def lineT (r : RuleD) : List UInt8 := r.head.data.toList ++ [32, 45, 62] ++ (if r.body = [] then [32, 126] else symsT r.body) ++ [10]
theorem lineT_some {r : RuleD} {l : List UInt8} (h : r.body ≠ []) : l ++ (r.head.data.toList ++ [32, 45, 62]) ++ symsT r.body ++ [10] = l ++ lineT r := by simp [lineT, h, List.append_assoc]
theorem lineT_none {r : RuleD} {l : List UInt8} (h : r.body = []) : l ++ (r.head.data.toList ++ [32, 45, 62]) ++ symsT [] ++ [32, 126] ++ [10] = l ++ lineT r := by simp [lineT, h, symsT, List.append_assoc]
def textT (rs : List RuleD) : List UInt8 := rs.flatMap lineT
theorem symsT_snoc (ss : List ByteArray) (s : ByteArray) : symsT (ss ++ [s]) = symsT ss ++ (32 :: s.data.toList) := by simp [symsT]
theorem symsT_take (ss : List ByteArray) (k : Nat) (h : k < ss.length) : symsT (ss.take (k + 1)) = symsT (ss.take k) ++ (32 :: ss[k].data.toList) := by
  rw [List.take_succ_eq_append_getElem h, symsT_snoc]
theorem textT_take (rs : List RuleD) (k : Nat) (h : k < rs.length) : textT (rs.take (k + 1)) = textT (rs.take k) ++ lineT rs[k] := by
  unfold textT; rw [List.take_succ_eq_append_getElem h, List.flatMap_append]; simp
theorem symB_size {lo hi : Nat} {s : ByteArray} (h : symB lo hi s = true) : s.size ≤ 4 := ((symB_iff lo hi s).1 h).2.1
theorem symOK_size {s : ByteArray} (h : symOK s = true) : s.size ≤ 4 := by
  unfold symOK at h
  rcases Bool.or_eq_true_iff.1 h with h | h
  · exact symB_size h
  · exact symB_size h
theorem symsT_len {ss : List ByteArray} (h : ∀ i (h : i < ss.length), ss[i].size ≤ 4) (k : Nat) (hk : k ≤ ss.length) : (symsT (ss.take k)).length ≤ 5 * k := by
  induction k with
  | zero => simp [symsT]
  | succ k ih =>
    rw [symsT_take ss k (by omega), List.length_append]
    have := ih (by omega)
    have h2 := h k (by omega)
    have h3 : (ss[k].data.toList).length = ss[k].size := rfl
    simp only [List.length_cons]
    omega
/-- a rule whose parts are short -/
def Short (r : RuleD) : Prop := r.head.size ≤ 4 ∧ r.body.length ≤ 5 ∧ ∀ i (h : i < r.body.length), r.body[i].size ≤ 4
theorem short_of {r : RuleD} (h : ruleB r = true) : Short r := by
  obtain ⟨h1, h2, h3⟩ := (ruleB_iff r).1 h
  exact ⟨symB_size h1, h2, fun i hi => symOK_size (h3 i hi)⟩
theorem lineT_len {r : RuleD} (h : Short r) : (lineT r).length ≤ 40 := by
  obtain ⟨h1, h2, h3⟩ := h
  have h4 := symsT_len h3 r.body.length (Nat.le_refl _)
  rw [List.take_length] at h4
  have h5 : (r.head.data.toList).length = r.head.size := rfl
  unfold lineT
  simp only [List.length_append, List.length_cons, List.length_nil]
  split
  · simp only [List.length_cons, List.length_nil]; omega
  · omega
theorem textT_len {rs : List RuleD} (h : ∀ i (h : i < rs.length), Short rs[i]) (k : Nat) (hk : k ≤ rs.length) : (textT (rs.take k)).length ≤ 40 * k := by
  induction k with
  | zero => simp [textT]
  | succ k ih =>
    rw [textT_take rs k (by omega), List.length_append]
    have := ih (by omega)
    have h2 := lineT_len (h k (by omega))
    omega
end Go.Proofs.Ytiochjagolijfaa.Tx

/- The walks of the model's l02In, l02Heads and Heads. -/
namespace Go.Proofs.Ytiochjagolijfaa
open Go.RowKit

theorem list_eqH (a b : ByteArray) : (a.toList == b.toList) = decide (a = b) := by
  rw [Bool.eq_iff_iff]; simp only [beq_iff_eq, decide_eq_true_eq]
  constructor
  · intro h
    apply ByteArray.ext
    apply Array.ext'
    simpa [ByteArray.toList_eq] using h
  · rintro rfl; rfl
/-- texts in a row of the call's own -/
def Sts (w : World) (base : Nat) (v : Value) (ss : List ByteArray) : Prop := w.ownsRow base 9 1 v ss.length (ss.map Value.string)
theorem Sts.nil (w : World) {base : Nat} (hb : base ≤ w.heap.size) : Sts (w.alloc (.cells #[] 9)) base (.slice (some ⟨w.heap.size, 0, none⟩) 0 0) [] := World.ownsRow_lit w #[] 0 hb (by unfold maxLen; omega) rfl
theorem Sts.one {w : World} {base : Nat} {v : Value} {ss : List ByteArray} (s : ByteArray) (h : w.ownsRow base 9 1 v (ss.length + 1) (ss.map Value.string ++ [.string s])) : Sts w base v (ss ++ [s]) := by
  unfold Sts
  rw [List.length_append, List.map_append]
  exact h
theorem Sts.own {w : World} {base : Nat} {v : Value} {ss : List ByteArray} (h : Sts w base v ss) (hz : ∀ s ∈ ss, s.size ≤ maxLen) : ∃ g, OwnS w g v ss ∧ (ss ≠ [] → base ≤ g ∧ g < w.heap.size) := by
  rcases h.2 with ⟨rfl, h0⟩ | ⟨g, cap, cur, rfl, hb, hh, hc, hm, hs, ht⟩
  · obtain rfl : ss = [] := List.eq_nil_of_length_eq_zero h0
    exact ⟨0, OwnS.nil w 0, fun hn => absurd rfl hn⟩
  · have hr : Row w g 9 cur := hh
    refine ⟨g, ⟨_, cap, rfl, hc, hm, hz, fun _ => ⟨0, cur, rfl, hr, fun i hi => ?_⟩⟩, fun _ => ⟨hb, hr.lt⟩⟩
    have h1 : (cur.toList.take (ss.length * 1))[i]? = some (.string ss[i]) := by rw [ht, List.getElem?_map, List.getElem?_eq_getElem hi]; rfl
    rw [List.getElem?_take_of_lt (by omega)] at h1
    rw [Nat.zero_add, ← Array.getElem?_toList]
    exact h1
theorem Sts.strs {w : World} {base : Nat} {v : Value} {ss : List ByteArray} (h : Sts w base v ss) (hz : ∀ s ∈ ss, s.size ≤ maxLen) : Strs w base w.heap.size v ss := by
  obtain ⟨g, ho, hg⟩ := h.own hz
  exact ho.strs hg
theorem one_str (s : ByteArray) : ∀ u ∈ [Value.string s], u.oneCell' = true := by
  intro u hu
  rw [List.mem_singleton] at hu; subst hu; rfl
theorem inB_t {ss : List ByteArray} {s : ByteArray} {k : Nat} (h : k < ss.length) (e : ss[k] = s) : inB ss s = true := (inB_iff _ _).2 (e ▸ List.getElem_mem h)
theorem inB_f {ss : List ByteArray} {s : ByteArray} (h : ∀ i (h : i < ss.length), ss[i] ≠ s) : inB ss s = false := by
  rw [Bool.eq_false_iff]
  intro e
  obtain ⟨i, hi, e2⟩ := List.getElem_of_mem ((inB_iff _ _).1 e)
  exact h i hi e2

set_option maxHeartbeats 1000000 in
theorem specIn_any (v : Value) (ss : List ByteArray) (s : ByteArray) (lo hi : Nat) (w : World) (h : Strs w lo hi v ss) :
    Calls Try.prog 40 #[v, .string s] w fun e w' => e = .returned (.bool (inB ss s)) ∧ w = w' := by
  obtain ⟨A, c, rfl, hlc, hc, hsz, hcell⟩ := h
  unfold maxLen at hc
  have HC := Lib.hid hcell
  clear hcell hsz
  go_enter Try.func40, Try.ntmps40
  go_wp2
  go_loop [5] (fun i => ∃ k : Nat, k ≤ ss.length ∧ i = .int .i64 k ∧ ∀ j (h : j < ss.length), j < k → ss[j] ≠ s) (fun i => ss.length - (intOf i).toNat)
  case atStart => exact ⟨0, by omega, rfl, fun j _ hj => by omega⟩
  case round =>
    obtain ⟨k, hk, rfl, hall⟩ := hrel
    have HA := Lib.hid hall
    clear hall
    by_cases hlt : k < ss.length
    · obtain ⟨b, off, rfl, _, _, hcc⟩ := HC.out (by omega)
      have hck := hcc k hlt
      clear hcc
      by_cases he : ss[k] = s
      · have d1 : (ss[k].toList == s.toList) = true := by rw [list_eqH, decide_eq_true he]
        have HE := Lib.hid he
        clear he
        go_wp2
        go_ret
        exact ⟨ret_bool (inB_t hlt HE.out).symm, rfl⟩
      · have d1 : (ss[k].toList == s.toList) = false := by rw [list_eqH, decide_eq_false he]
        go_wp2
        go_round
        case rel => exact ⟨k + 1, by omega, by go_num, fun j hj hjk => by
          by_cases e : j = k
          · subst e; exact he
          · exact HA.out j hj (by omega)⟩
        case measure => simp [intOf]; omega
    · go_wp2
      go_ret
      exact ⟨ret_bool (inB_f fun i hi => HA.out i hi (by omega)).symm, rfl⟩

end Go.Proofs.Ytiochjagolijfaa

/- The walks of the model's l03All, l03Sort, l03Fix, Nullable and Productive. -/
namespace Go.Proofs.Ytiochjagolijfaa
open Go.RowKit

theorem Sts.below {w w' : World} {base : Nat} {v : Value} {ss : List ByteArray} (h : Sts w base v ss) (k : Below w.heap.size w w') : Sts w' base v ss := by
  refine ⟨h.1, ?_⟩
  rcases h.2 with a | ⟨g, cap, cur, rfl, hb, hh, r⟩
  · exact .inl a
  · have hr : Row w g 9 cur := hh
    exact .inr ⟨g, cap, cur, rfl, hb, (k.block g hr.lt).trans hh, r⟩
theorem Sts.shape {w : World} {base : Nat} {v : Value} {ss : List ByteArray} (h : Sts w base v ss) : ∃ B d, v = .slice B ss.length d := by
  rcases h.2 with ⟨rfl, h0⟩ | ⟨g, cap, cur, rfl, _⟩
  · exact ⟨none, 0, by rw [h0]⟩
  · exact ⟨_, _, rfl⟩
/-- is all of a body among some, or a token, if these count? -/
def allB (body some : List ByteArray) (tok : Bool) : Bool := body.all fun s => inB some s || (tok && tokB s)
theorem allB_iff (body ins : List ByteArray) (tok : Bool) : allB body ins tok = true ↔ ∀ s ∈ body, (tok && tokB s) = false → s ∈ ins := by
  unfold allB
  rw [List.all_eq_true]
  constructor
  · intro h s hs ht
    have := h s hs
    rw [ht, Bool.or_false] at this
    exact (inB_iff _ _).1 this
  · intro h s hs
    cases ht : (tok && tokB s)
    · rw [(inB_iff _ _).2 (h s hs ht), Bool.true_or]
    · rw [Bool.or_true]
theorem allB_no {body ins : List ByteArray} {tok : Bool} {k : Nat} (h : k < body.length) (h1 : (inB ins body[k] || (tok && tokB body[k])) = false) : allB body ins tok = false := by
  rw [Bool.eq_false_iff]
  intro e
  unfold allB at e
  rw [List.all_eq_true] at e
  have := e _ (List.getElem_mem h)
  rw [h1] at this; cases this
theorem allB_yes {body ins : List ByteArray} {tok : Bool} (h : ∀ k (h : k < body.length), (inB ins body[k] || (tok && tokB body[k])) = true) : allB body ins tok = true := by
  unfold allB
  rw [List.all_eq_true]
  intro s hs
  obtain ⟨k, hk, rfl⟩ := List.getElem_of_mem hs
  exact h k hk

set_option maxRecDepth 100000 in
set_option maxHeartbeats 2000000 in
theorem specAll_any (v x : Value) (body ins : List ByteArray) (tok : Bool) (lo hi lo' hi' : Nat) (w : World) (h : Strs w lo hi v body) (hx : Strs w lo' hi' x ins) :
    Calls Try.prog 67 #[v, x, .bool tok] w fun e w' => e = .returned (.bool (allB body ins tok)) ∧ w = w' := by
  have HX := Lib.hid hx
  obtain ⟨X, xc, rfl, -⟩ := hx
  obtain ⟨A, c, rfl, hlc, hc, hsz, hcell⟩ := h
  unfold maxLen at hc
  have HC := Lib.hid hcell
  have HZ := Lib.hid hsz
  clear hcell hsz
  go_enter Try.func67, Try.ntmps67
  go_wp2
  go_loop [7] (fun i => ∃ k : Nat, k ≤ body.length ∧ i = .int .i64 k ∧ ∀ j (h : j < body.length), j < k → (inB ins body[j] || (tok && tokB body[j])) = true) (fun i => body.length - (intOf i).toNat)
  case atStart => exact ⟨0, by omega, rfl, fun j _ hj => by omega⟩
  case round =>
    obtain ⟨k, hk, rfl, hall⟩ := hrel
    have HA := Lib.hid hall
    clear hall
    by_cases hlt : k < body.length
    · obtain ⟨b, off, rfl, _, _, hcc⟩ := HC.out (by omega)
      have hck := hcc k hlt
      have hks := HZ.out _ (List.getElem_mem hlt)
      clear hcc
      cases hi : inB ins body[k]
      · have HI := Lib.hid hi
        clear hi
        cases tok
        · go_wp2_with fail
          refine (specIn_any _ ins body[k] lo' hi' _ HX.out).mono ?_
          rintro e w1 ⟨rfl, rfl⟩
          rw [HI.out]
          go_wp2
          go_ret
          exact ⟨ret_bool (allB_no hlt (by rw [HI.out]; rfl)).symm, rfl⟩
        · cases ht : tokB body[k]
          · have HT := Lib.hid ht
            clear ht
            go_wp2_with fail
            refine (specIn_any _ ins body[k] lo' hi' _ HX.out).mono ?_
            rintro e w1 ⟨rfl, rfl⟩
            rw [HI.out]
            go_wp2_with fail
            refine (specIsToken_any _ _ hks).mono ?_
            rintro e w1 ⟨rfl, rfl⟩
            rw [HT.out]
            go_wp2
            go_ret
            exact ⟨ret_bool (allB_no hlt (by rw [HI.out, HT.out]; rfl)).symm, rfl⟩
          · have HT := Lib.hid ht
            clear ht
            go_wp2_with fail
            refine (specIn_any _ ins body[k] lo' hi' _ HX.out).mono ?_
            rintro e w1 ⟨rfl, rfl⟩
            rw [HI.out]
            go_wp2_with fail
            refine (specIsToken_any _ _ hks).mono ?_
            rintro e w1 ⟨rfl, rfl⟩
            rw [HT.out]
            go_wp2
            go_round
            case rel => exact ⟨k + 1, by omega, by go_num, fun j hj hjk => by
              by_cases e : j = k
              · subst e; rw [HT.out]; simp
              · exact HA.out j hj (by omega)⟩
            case measure => simp [intOf]; omega
      · have HI := Lib.hid hi
        clear hi
        go_wp2_with fail
        refine (specIn_any _ ins body[k] lo' hi' _ HX.out).mono ?_
        rintro e w1 ⟨rfl, rfl⟩
        rw [HI.out]
        go_wp2
        go_round
        case rel => exact ⟨k + 1, by omega, by go_num, fun j hj hjk => by
          by_cases e : j = k
          · subst e; rw [HI.out]; simp
          · exact HA.out j hj (by omega)⟩
        case measure => simp [intOf]; omega
    · go_wp2
      go_ret
      exact ⟨ret_bool (allB_yes fun k hk => HA.out k hk (by omega)).symm, rfl⟩
end Go.Proofs.Ytiochjagolijfaa
