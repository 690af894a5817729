import Derived.Test.YtbaofldcdcllfaaDoorRight
import Derived.Lib.AppendStr
import Derived.Laws.IdiomStrings
import Derived.Laws.BytesArg
import Derived.Test.YtbaofldcdcllfaaDoorJSz
import Derived.Test.YtbaofldcdcllfaaDoorJXtd
import Derived.Test.YtbaofldcdcllfaaDoorStx
import Derived.Test.YtbaofldcdcllfaaDoorJTmd
/- Bytes of the call's own, and the text of a grammar, as lists. No program stands in this text but its types' numbers. -/
namespace Go.Proofs.YtbaofldcdcllfaaDoor.Tx
open Go.RowKit

def bv (b : UInt8) : Value := .int .u8 (b.toNat : Int)
def bs (l : List UInt8) : ByteArray := ⟨l.toArray⟩
theorem bs_size (l : List UInt8) : (bs l).size = l.length := rfl
theorem bs_of (s : ByteArray) : bs s.data.toList = s := rfl
theorem bs_app (a b : ByteArray) : a ++ b = bs (a.data.toList ++ b.data.toList) := ByteArray.mk_append_mk a.data.toList b.data.toList
theorem bs_inj {a b : List UInt8} (h : bs a = bs b) : a = b := by
  have := congrArg (fun x : ByteArray => x.data.toList) h
  simpa [bs] using this
theorem infoB : (Tryd.prog.info? 5).map (fun i => (i.zero, i.size, i.bytes)) = some (some (.int .u8 0), 1, 1) := by kernel_rfl
/-- these bytes, in a row of the call's own -/
def Bts (w : World) (base : Nat) (v : Value) (l : List UInt8) : Prop := w.ownsRow base 5 1 v l.length (l.map bv)
theorem Bts.nil (w : World) {base : Nat} (hb : base ≤ w.heap.size) : Bts (w.alloc (.cells #[] 5)) base (.slice (some ⟨w.heap.size, 0, none⟩) 0 0) [] := World.ownsRow_lit w #[] 0 hb (by unfold maxLen; omega) rfl
theorem Bts.to {w : World} {base : Nat} {v : Value} {l l' : List UInt8} (h : Bts w base v l) (e : l = l') : Bts w base v l' := e ▸ h
theorem Bts.str {w : World} {base n : Nat} {v : Value} {l : List UInt8} {s : ByteArray} (hn : n = s.size) (h : w.ownsRow base 5 1 v (l.length + n) (l.map bv ++ Lib.strCells s)) : Bts w base v (l ++ s.data.toList) := by
  subst hn
  have e : (l ++ s.data.toList).length = l.length + s.size := by rw [List.length_append]; rfl
  unfold Bts
  rw [e, List.map_append]
  exact h
theorem Bts.one {w : World} {base : Nat} {v : Value} {l : List UInt8} (b : UInt8) (h : w.ownsRow base 5 1 v (l.length + 1) (l.map bv ++ [.int .u8 (b.toNat : Int)])) : Bts w base v (l ++ [b]) := by
  unfold Bts
  rw [List.length_append, List.map_append]
  exact h
theorem Bts.conv {w : World} {base : Nat} {v : Value} {l : List UInt8} (h : Bts w base v l) : (convert 45 9 v).run Tryd.prog w = .ok (.string (bs l)) w := by
  rcases h.2 with ⟨rfl, h0⟩ | ⟨g, cap, cur, rfl, hb, hh, hc, hm, hs, ht⟩
  · obtain rfl : l = [] := List.eq_nil_of_length_eq_zero h0
    exact run_convert_bytes_nil w 45 5 Tryd.underlying45 Tryd.underlying5 0 0 9 Tryd.underlying9
  · exact run_convert_bytes_back w 45 9 5 ⟨g, 0, none⟩ cap l Tryd.underlying45 Tryd.underlying5 Tryd.underlying9 (fun j hj => by
      refine World.ownsRow.cells h (g := g) rfl j _ ?_
      rw [List.getElem?_map, List.getElem?_eq_getElem hj]; rfl)
theorem one_cell {k : IntKind} (c : Int) : ∀ u ∈ [Value.int k c], u.oneCell' = true := by
  intro u hu
  rw [List.mem_singleton] at hu; subst hu; rfl
/-- a row of another type stands while bytes of the call's own grow -/
theorem row_grown {w w' : World} {g base : Nat} {t : TypeId} {cur : Array Value} {v : Value} {n size : Nat} {e : TypeId} {xs : List Value} (r : Row w g t cur) (ho : w.ownsRow base e size v n xs) (hne : t ≠ e) (hg : w.grownBy w' v.ownBlock) : Row w' g t cur := by
  refine r.same (hg.block g r.lt fun h => ?_)
  rcases ho.2 with ⟨rfl, _⟩ | ⟨g', cap, cur', rfl, _, hh, _⟩
  · simp [Value.ownBlock] at h
  · have : g = g' := by simpa [Value.ownBlock] using h
    subst this
    exact r.apart (t' := e) (cur' := cur') hh hne rfl
theorem below_grown {B base : Nat} {a w w' : World} {v : Value} {n size : Nat} {e : TypeId} {xs : List Value} (h : Below B a w) (ho : w.ownsRow base e size v n xs) (hg : w.grownBy w' v.ownBlock) (hB : B ≤ w.heap.size) (hb : B ≤ base) : Below B a w' :=
  h.grown hg hB (fun k hk => Nat.le_trans hb (ho.lt k hk).1)

/-- the text of a list of symbols, of a rule, of a grammar -/
def symsT (ss : List ByteArray) : List UInt8 := ss.flatMap fun s => 32 :: s.data.toList
def lineT (r : RuleD) : List UInt8 := r.head.data.toList ++ [32, 45, 62] ++ (if r.body = [] then [32, 126] else symsT r.body) ++ [10]
theorem lineT_some {r : RuleD} {l : List UInt8} (h : r.body ≠ []) : l ++ (r.head.data.toList ++ [32, 45, 62]) ++ symsT r.body ++ [10] = l ++ lineT r := by simp [lineT, h, List.append_assoc]
theorem lineT_none {r : RuleD} {l : List UInt8} (h : r.body = []) : l ++ (r.head.data.toList ++ [32, 45, 62]) ++ symsT [] ++ [32, 126] ++ [10] = l ++ lineT r := by simp [lineT, h, symsT, List.append_assoc]
def textT (rs : List RuleD) : List UInt8 := rs.flatMap lineT
theorem symsT_snoc (ss : List ByteArray) (s : ByteArray) : symsT (ss ++ [s]) = symsT ss ++ (32 :: s.data.toList) := by simp [symsT]
theorem symsT_take (ss : List ByteArray) (k : Nat) (h : k < ss.length) : symsT (ss.take (k + 1)) = symsT (ss.take k) ++ (32 :: ss[k].data.toList) := by
  rw [List.take_succ_eq_append_getElem h, symsT_snoc]
theorem textT_take (rs : List RuleD) (k : Nat) (h : k < rs.length) : textT (rs.take (k + 1)) = textT (rs.take k) ++ lineT rs[k] := by
  unfold textT; rw [List.take_succ_eq_append_getElem h, List.flatMap_append]; simp
theorem symB_size {lo hi : Nat} {s : ByteArray} (h : symB lo hi s = true) : s.size ≤ 4 := ((symB_iff lo hi s).1 h).2.1
theorem symOK_size {s : ByteArray} (h : symOK s = true) : s.size ≤ 4 := by
  unfold symOK at h
  rcases Bool.or_eq_true_iff.1 h with h | h
  · exact symB_size h
  · exact symB_size h
theorem symsT_len {ss : List ByteArray} (h : ∀ i (h : i < ss.length), ss[i].size ≤ 4) (k : Nat) (hk : k ≤ ss.length) : (symsT (ss.take k)).length ≤ 5 * k := by
  induction k with
  | zero => simp [symsT]
  | succ k ih =>
    rw [symsT_take ss k (by omega), List.length_append]
    have := ih (by omega)
    have h2 := h k (by omega)
    have h3 : (ss[k].data.toList).length = ss[k].size := rfl
    simp only [List.length_cons]
    omega
/-- a rule whose parts are short -/
def Short (r : RuleD) : Prop := r.head.size ≤ 4 ∧ r.body.length ≤ 5 ∧ ∀ i (h : i < r.body.length), r.body[i].size ≤ 4
theorem short_of {r : RuleD} (h : ruleB r = true) : Short r := by
  obtain ⟨h1, h2, h3⟩ := (ruleB_iff r).1 h
  exact ⟨symB_size h1, h2, fun i hi => symOK_size (h3 i hi)⟩
theorem lineT_len {r : RuleD} (h : Short r) : (lineT r).length ≤ 40 := by
  obtain ⟨h1, h2, h3⟩ := h
  have h4 := symsT_len h3 r.body.length (Nat.le_refl _)
  rw [List.take_length] at h4
  have h5 : (r.head.data.toList).length = r.head.size := rfl
  unfold lineT
  simp only [List.length_append, List.length_cons, List.length_nil]
  split
  · simp only [List.length_cons, List.length_nil]; omega
  · omega
theorem textT_len {rs : List RuleD} (h : ∀ i (h : i < rs.length), Short rs[i]) (k : Nat) (hk : k ≤ rs.length) : (textT (rs.take k)).length ≤ 40 * k := by
  induction k with
  | zero => simp [textT]
  | succ k ih =>
    rw [textT_take rs k (by omega), List.length_append]
    have := ih (by omega)
    have h2 := lineT_len (h k (by omega))
    omega
end Go.Proofs.YtbaofldcdcllfaaDoor.Tx

/- The text of Mades, as data; bytes of the call's own stand while memory behind them is made. No program stands in this text. -/
namespace Go.Proofs.YtbaofldcdcllfaaDoor
open Go.RowKit
open Tx (symsT)

/-- the line of a Made, and what a list of them reads as -/
def madeT (m : MadeD) : List UInt8 := (m.head.data.toList ++ [32, 45, 62]) ++ symsT m.body ++ ([32, 58, 32] ++ termT m.term ++ [10])
def madesT (ms : List MadeD) : List UInt8 := ms.flatMap madeT
/-- MadesText, as data -/
def madesText (ms : List MadeD) : List UInt8 := if ms.length ≤ 400 then madesT ms else []
theorem madesT_take (ms : List MadeD) (k : Nat) (h : k < ms.length) : madesT (ms.take (k + 1)) = madesT (ms.take k) ++ madeT ms[k] := by
  unfold madesT; rw [List.take_succ_eq_append_getElem h, List.flatMap_append]; simp
theorem symsT_size (ss : List ByteArray) : (symsT ss).length = bulkS ss := by
  induction ss with
  | nil => rfl
  | cons s ss ih =>
    have e : (s.data.toList).length = s.size := rfl
    unfold symsT at ih ⊢
    unfold bulkS sizes at ih ⊢
    simp only [List.flatMap_cons, List.length_append, List.length_cons, List.map_cons, List.sum_cons, ih, e]
    omega
theorem symsT_part (ss : List ByteArray) (k : Nat) : (symsT (ss.take k)).length ≤ bulkS ss := by
  rw [symsT_size]
  unfold bulkS
  have := sizes_take_le ss k
  have : (ss.take k).length ≤ ss.length := by rw [List.length_take]; omega
  omega
theorem termT_len (t : TermD) (h : fitsM t) : (termT t).length ≤ 24 * sizeM t := by
  unfold termT
  split
  · have := textM_len t h; omega
  · simp
theorem madeT_len (m : MadeD) (h : fitsM m.term) : (madeT m).length ≤ 31 + 24 * bulkD m := by
  have h1 := symsT_size m.body
  have h2 := termT_len m.term h
  rw [sizeM_eq] at h2
  have h3 : (m.head.data.toList).length = m.head.size := rfl
  unfold madeT bulkD
  simp only [List.length_append, List.length_cons, List.length_nil]
  omega
theorem madesT_len {ms : List MadeD} (h : ∀ i (h : i < ms.length), fitsM ms[i].term) (k : Nat) (hk : k ≤ ms.length) : (madesT (ms.take k)).length ≤ 31 * k + 24 * madesTo ms k := by
  induction k with
  | zero => simp [madesT]
  | succ k ih =>
    rw [madesT_take ms k (by omega), madesTo_succ ms k (by omega), List.length_append]
    have := ih (by omega)
    have := madeT_len _ (h k (by omega))
    omega
theorem DM.fits {z : Bool} {w : World} {lo hi : Nat} {v : Value} {ms : List MadeD} (h : DM z w lo hi v ms) : ∀ i (h : i < ms.length), fitsM ms[i].term := fun i hi => by
  obtain ⟨A, c, h1, h2, h3, h4⟩ := h
  obtain ⟨b, off, _, _, _, _, hc⟩ := h4 (by omega)
  obtain ⟨_, ht, _, u, x, _, _, _, _, _, hk⟩ := hc i hi
  exact (fitsM_eq _).2 ⟨ht.1.2, hk.fits⟩
theorem Tx.Bts.on {w w' : World} {base : Nat} {v : Value} {l : List UInt8} (h : Tx.Bts w base v l) (k : Below w.heap.size w w') : Tx.Bts w' base v l :=
  World.ownsRow.kept (row := none) h ⟨k.os, k.tape, k.output, k.size, fun i hi _ => k.block i hi⟩ (by
    rcases h.2 with ⟨rfl, _⟩ | ⟨g, cap, cur, rfl, _⟩
    · exact .inl rfl
    · exact .inr (by simp [Value.ownBlock]))
end Go.Proofs.YtbaofldcdcllfaaDoor

/- The model's size of a term, as far as one asks: spec.l06Size. -/
namespace Go.Proofs.YtbaofldcdcllfaaDoor
open Go.RowKit

theorem term_ind {p : TermD → Prop} (h : ∀ t : TermD, (∀ i (h : i < t.kids.length), p t.kids[i]) → p t) (t : TermD) : p t :=
  h t (terms_ind (p := fun ts => ∀ i (h : i < ts.length), p ts[i]) (fun _ ih i hi => h _ (ih i hi)) t.kids)
def SpM (t : TermD) : Prop := ∀ (z : Bool) (u : Value) (lo hi : Nat) (most : Int) (w : World), KM z w lo hi u t.kids → hi ≤ w.heap.size → sizeM t ≤ 2097152 → 0 ≤ most → most ≤ 1000 →
  Calls Tryd.prog 49 #[tmV t u, .int .i64 most] w fun e w' => ∃ r, e = .returned (.int .i64 r) ∧ Upto (sizeM t) most r ∧ Below w.heap.size w w'

set_option maxRecDepth 100000 in
set_option maxHeartbeats 1000000 in
theorem specSize6_of (t : TermD) (ih : ∀ i (h : i < t.kids.length), SpM t.kids[i]) : SpM t := by
  intro z u lo hi most w h hhi hn hm0 hm1
  have hst := sizeM_eq t
  obtain ⟨A, c, U, rfl, hlc, hc, hs, hcell, hsub⟩ := h.parts
  unfold maxLen at hc
  have HC := Lib.hid hcell
  have HB := Lib.hid hsub
  clear hcell hsub h hs
  unfold tmV
  have hb0 := al1 w (.cells #[.int .i64 t.kind, .int .i64 t.num, .slice A t.kids.length c] 60)
  have R0 := Row.made w 60 #[.int .i64 t.kind, .int .i64 t.num, .slice A t.kids.length c]
  go_enter Tryd.func49, Tryd.ntmps49
  go_wp2
  generalize w.alloc (.cells #[.int .i64 t.kind, .int .i64 t.num, .slice A t.kids.length c] 60) = w0 at hb0 R0 ⊢
  go_loopw [5, 6] (fun l i wr => ∃ (k : Nat) (r : Int), k ≤ t.kids.length ∧ i = .int .i64 k ∧ l = .int .i64 r ∧ Upto (1 + sizeMs (t.kids.take k)) most r ∧ Below w0.heap.size w0 wr) (fun _ i _ => t.kids.length - (intOf i).toNat)
  case atStart => exact ⟨0, 1, by omega, rfl, rfl, (by unfold Upto; simp [sizeMs] <;> omega), Below.refl _ _⟩
  case round =>
    obtain ⟨k, r, hk, rfl, rfl, hup, hbw⟩ := hrel
    have hsw := hbw.size
    have hws := hb0.size
    have R1 := R0.below hbw R0.lt
    have hlt0 := R1.lt
    have c2 := R1.cell 2
    simp at c2
    have htl := sizeMs_take_le t.kids k
    have HU := Lib.hid hup
    by_cases hlt : k < t.kids.length
    · by_cases hr : r ≤ most
      · obtain ⟨b, off, rfl, _, hbh, _, hcc⟩ := HC.out (by omega)
        obtain ⟨hc0, hc1, hc2⟩ := hcc k hlt
        have hbx := hb0.trans (hbw.mono hws)
        have k0 := (hbx.cell (p := ⟨b, off + k * 3, none⟩) (by show b < _; omega)).trans hc0
        have k1 := (hbx.cell (p := ⟨b, off + k * 3 + 1, none⟩) (by show b < _; omega)).trans hc1
        have k2 := (hbx.cell (p := ⟨b, off + k * 3 + 2, none⟩) (by show b < _; omega)).trans hc2
        have hst' := (HB.out k hlt).under hbx hhi
        have hg := sizeMs_take t.kids k hlt
        have hle := sizeMs_take_le t.kids (k + 1)
        have HG := Lib.hid hg
        have hle2 : 1 + sizeMs (t.kids.take k) + sizeM t.kids[k] ≤ 2097152 := by omega
        have hr0 : 1 ≤ r := by unfold Upto at hup; omega
        have hre : r = ((1 + sizeMs (t.kids.take k) : Nat) : Int) := by unfold Upto at hup; omega
        have HR := Lib.hid hre
        clear hcc hc0 hc1 hc2 hg hle R1 hst hup hre htl
        go_wp2_with fail
        refine (ih k hlt z (U k) lo hi (most - r) _ hst' (by omega) (by omega) (by omega) (by omega)).mono ?_
        rintro e w1 ⟨r1, rfl, hup1, hb1⟩
        have HU1 := Lib.hid hup1
        have hr1 : 0 ≤ r1 ∧ r1 ≤ 2097152 := by unfold Upto at hup1; omega
        clear hup1
        obtain ⟨hr1, hr2⟩ := hr1
        go_wp2
        go_roundw
        case rel => exact ⟨k + 1, r + r1, by omega, by go_num, by go_num, by have := HU1.out; have := HR.out; have := HG.out; unfold Upto at *; omega, hbw.trans (hb1.mono hsw)⟩
        case measure => simp [intOf]; omega
      · clear R1 hup
        have i1 : (k : Int) < (t.kids.length : Int) := by omega
        go_wp2
        go_ret
        exact ⟨_, rfl, by have := HU.out; unfold Upto at *; omega, hb0.trans (hbw.mono hws)⟩
    · have hks : k = t.kids.length := by omega
      have HK := Lib.hid hks
      clear hks R1 hup
      go_wp2
      go_ret
      refine ⟨_, rfl, ?_, hb0.trans (hbw.mono hws)⟩
      have e := HK.out
      subst e
      have := HU.out
      rw [List.take_length] at this
      rw [hst]; exact this
theorem specSize6_any (t : TermD) : SpM t := term_ind specSize6_of t
end Go.Proofs.YtbaofldcdcllfaaDoor
