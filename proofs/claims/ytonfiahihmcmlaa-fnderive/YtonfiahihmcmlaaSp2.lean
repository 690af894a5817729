/- The walk of ends: where a body may end that begins at a place. -/
import Derived.Test.YtonfiahihmcmlaaSp1
import Derived.Deep.QuietTactic
import Derived.BigQuiet
namespace Go.Proofs.Ytonfiahihmcmlaa
open Go.RowKit

/-- by one symbol, from places ahead of k -/
def partP (T : TabF) (hs t : List ByteArray) (s : ByteArray) (P : Nat → Prop) (k e : Nat) : Prop :=
  e ≤ t.length ∧ ∃ q, q < k ∧ q ≤ t.length ∧ P q ∧ ((s ∈ hs ∧ q ≤ e ∧ T (hIx hs s) (13 * q + e) = true) ∨ (s ∉ hs ∧ t[q]? = some s ∧ e = q + 1))
/-- and, from place k, to places ahead of e0 -/
def partE (T : TabF) (hs t : List ByteArray) (s : ByteArray) (P : Nat → Prop) (k e0 e : Nat) : Prop := partP T hs t s P k e ∨ (e < e0 ∧ e ≤ t.length ∧ k ≤ e ∧ T (hIx hs s) (13 * k + e) = true)
section
variable {T : TabF} {hs t : List ByteArray} {s : ByteArray} {P : Nat → Prop} {k e e0 : Nat}
theorem partP_zero : ¬ partP T hs t s P 0 e := fun ⟨_, q, hq, _⟩ => by omega
theorem partP_all : partP T hs t s P (t.length + 1) e ↔ stepP T hs t s P e := by
  constructor
  · rintro ⟨h1, q, _, h2, h3⟩; exact ⟨h1, q, h2, h3⟩
  · rintro ⟨h1, q, h2, h3⟩; exact ⟨h1, q, by omega, h2, h3⟩
theorem partP_skip (h : ¬ P k) : partP T hs t s P (k + 1) e ↔ partP T hs t s P k e := by
  constructor
  · rintro ⟨h1, q, h2, h3, h4, h5⟩
    have : q ≠ k := fun e => h (e ▸ h4)
    exact ⟨h1, q, by omega, h3, h4, h5⟩
  · rintro ⟨h1, q, h2, h3⟩; exact ⟨h1, q, by omega, h3⟩
theorem partP_no (hs' : s ∉ hs) (h : t[k]? ≠ some s) : partP T hs t s P (k + 1) e ↔ partP T hs t s P k e := by
  constructor
  · rintro ⟨h1, q, h2, h3, h4, h5⟩
    refine ⟨h1, q, ?_, h3, h4, h5⟩
    have : q ≠ k := fun e => by
      subst e
      rcases h5 with h5 | h5
      · exact hs' h5.1
      · exact h h5.2.1
    omega
  · rintro ⟨h1, q, h2, h3⟩; exact ⟨h1, q, by omega, h3⟩
theorem partP_tok (hs' : s ∉ hs) (hP : P k) (h : t[k]? = some s) : partP T hs t s P (k + 1) e ↔ (e = k + 1 ∨ partP T hs t s P k e) := by
  have hk := (List.getElem?_eq_some_iff.1 h).1
  constructor
  · rintro ⟨h1, q, h2, h3, h4, h5⟩
    by_cases e' : q = k
    · subst e'
      rcases h5 with h5 | h5
      · exact absurd h5.1 hs'
      · exact .inl h5.2.2
    · exact .inr ⟨h1, q, by omega, h3, h4, h5⟩
  · rintro (rfl | ⟨h1, q, h2, h3⟩)
    · exact ⟨by omega, k, by omega, by omega, hP, .inr ⟨hs', h, rfl⟩⟩
    · exact ⟨h1, q, by omega, h3⟩
theorem partE_start : partE T hs t s P k k e ↔ partP T hs t s P k e := by
  constructor
  · rintro (h | ⟨h1, h2, h3, _⟩)
    · exact h
    · omega
  · exact .inl
theorem partE_end (hs' : s ∈ hs) (hP : P k) (hk : k ≤ t.length) : partE T hs t s P k (t.length + 1) e ↔ partP T hs t s P (k + 1) e := by
  constructor
  · rintro (⟨h1, q, h2, h3⟩ | ⟨_, h1, h2, h3⟩)
    · exact ⟨h1, q, by omega, h3⟩
    · exact ⟨h1, k, by omega, hk, hP, .inl ⟨hs', h2, h3⟩⟩
  · rintro ⟨h1, q, h2, h3, h4, h5⟩
    by_cases e' : q = k
    · subst e'
      rcases h5 with ⟨_, h6, h7⟩ | h5
      · exact .inr ⟨by omega, h1, h6, h7⟩
      · exact absurd hs' h5.1
    · exact .inl ⟨h1, q, by omega, h3, h4, h5⟩
theorem partE_next (hk : k ≤ e0) (he : e0 ≤ t.length) : partE T hs t s P k (e0 + 1) e ↔ (if e = e0 then (partE T hs t s P k e0 e0 ∨ T (hIx hs s) (13 * k + e0) = true) else partE T hs t s P k e0 e) := by
  by_cases h : e = e0
  · subst h
    rw [if_pos rfl]
    constructor
    · rintro (h | ⟨_, _, _, h⟩)
      · exact .inl (.inl h)
      · exact .inr h
    · rintro (h | h)
      · rcases h with h | ⟨h, _⟩
        · exact .inl h
        · omega
      · exact .inr ⟨by omega, he, hk, h⟩
  · rw [if_neg h]
    constructor
    · rintro (h1 | ⟨h1, h2⟩)
      · exact .inl h1
      · exact .inr ⟨by omega, h2⟩
    · rintro (h1 | ⟨h1, h2⟩)
      · exact .inl h1
      · exact .inr ⟨by omega, h2⟩
end
theorem partE_fill {T : TabF} {hs t : List ByteArray} {s : ByteArray} {P : Nat → Prop} {k e0 n : Nat} (hk : k ≤ e0) (he : e0 ≤ t.length) {b : Bool} (h : b = true ↔ (partE T hs t s P k e0 e0 ∨ T (hIx hs s) (13 * k + e0) = true)) : ∀ q, q < n → (partE T hs t s P k (e0 + 1) q ↔ (if q = e0 then b = true else partE T hs t s P k e0 q)) := by
  intro q _
  rw [partE_next hk he]
  split
  · exact h.symm
  · rfl
theorem makeBoolsZ (n : Nat) (hn : n ≤ 999) (W : World) : (Instr.makeSlice 129 (.int .i64 ((n : Int) + 1)) (.int .i64 ((n : Int) + 1))).run Try.prog W = .ok (.slice (some ⟨W.heap.size, 0, none⟩) (n + 1) (n + 1)) (W.alloc (.cells (cellsB (fun _ => false) (n + 1)) 4)) := by
  have := makeBools (n + 1) (by omega) W
  rw [cellsB_made] at this
  exact_mod_cast this
/-- what ends hands back -/
def MadeE (w : World) (n : Nat) (P : Nat → Prop) (e : Ending) (w' : World) : Prop := ∃ g, e = .returned (.slice (some ⟨g, 0, none⟩) (n + 1) (n + 1)) ∧ Row w' g 4 (cellsB (fB P) (n + 1)) ∧ w.heap.size ≤ g ∧ Below w.heap.size w w'

/-- a place is filled in, of a row that is told by P -/
theorem Row.fill {w : World} {g n q : Nat} {P Q : Nat → Prop} (r : Row w g 4 (cellsB (fB P) n)) {b : Bool} (h : ∀ e, e < n → (Q e ↔ (if e = q then b = true else P e))) : Row (w.setCell ⟨g, q, none⟩ (.bool b)) g 4 (cellsB (fB Q) n) := by
  have := r.put q (.bool b)
  rw [cellsB_put] at this
  rwa [show cellsB (fun p => if p = q then b else fB P p) n = cellsB (fB Q) n from cellsB_congr fun e he => by
    rw [Bool.eq_iff_iff, fB_iff, h e he]
    split
    · rfl
    · exact fB_iff] at this
theorem TabAt.cells {w : World} {p : Nat} {A : Option Addr} {c G cG hi : Nat} {hs : List ByteArray} {R : List Nat} {T : TabF} (h : TabAt w p A c G cG hi hs R T) {i q : Nat} (hi' : i < hs.length) (hq : q < 169) : ∃ rb, w.cell? ⟨p, 1, none⟩ = some (.slice (some ⟨G, 0, none⟩) hs.length cG) ∧ w.cell? ⟨G, i, none⟩ = some (.slice (some ⟨rb, 0, none⟩) 169 169) ∧ w.cell? ⟨rb, q, none⟩ = some (.bool (T i q)) ∧ rb < w.heap.size :=
  have hl : i < R.length := by rw [h.len]; exact hi'
  ⟨R[i], h.box.cell 1, h.ins i hl, by rw [(h.rows i hl).cell, cellsB_get hq], (h.rows i hl).lt⟩

set_option maxRecDepth 100000 in
set_option maxHeartbeats 16000000 in
theorem ends_any (hs t body : List ByteArray) (T : TabF) (R : List Nat) (p : Nat) (A : Option Addr) (c G cG hi : Nat) (bv tv : Value) (lb hb lt ht fr : Nat) (w : World) (h : TabAt w p A c G cG hi hs R T) (hB : Strs w lb hb bv body) (hhb : hb ≤ w.heap.size) (hT : Strs w lt ht tv t) (hht : ht ≤ w.heap.size) (hfr : fr ≤ t.length) (h12 : t.length ≤ 12) (hb5 : body.length ≤ 1000) :
    Calls Try.prog 136 #[.pointer (some ⟨p, 0, none⟩), bv, tv, .int .i64 (fr : Int)] w (MadeE w t.length (endP T hs t body (· = fr))) := by
  have hmk := makeBoolsZ t.length (by omega)
  have HTAB := Lib.hid h
  have HB := Lib.hid hB
  have HT := Lib.hid hT
  obtain ⟨Ab, cb, rfl, hlb, hcb, -, -⟩ := hB
  obtain ⟨At, ct, rfl, hlt', hct, -, -⟩ := hT
  unfold maxLen at hcb hct
  have hcG := h.cap
  unfold maxLen at hcG
  have hlp := h.box.lt
  have hlG := h.lt.1
  have R1 := Row.made w 4 (cellsB (fun _ => false) (t.length + 1))
  have f1 := R1.free fr
  have c1 := R1.cell fr
  rw [cellsB_get (by omega)] at c1
  have R2 := Row.made w 4 ((cellsB (fun _ => false) (t.length + 1)).setIfInBounds fr (.bool true))
  have e2 : (cellsB (fun _ => false) (t.length + 1)).setIfInBounds fr (.bool true) = cellsB (fB (endP T hs t (body.take 0) (· = fr))) (t.length + 1) := by
    rw [cellsB_put]
    refine cellsB_congr fun q _ => ?_
    rw [Bool.eq_iff_iff, fB_iff]
    show (if q = fr then true else false) = true ↔ q = fr
    split <;> simp [*]
  have HR2 : Hid (Row (w.alloc (.cells ((cellsB (fun _ => false) (t.length + 1)).setIfInBounds fr (.bool true)) 4)) w.heap.size 4 (cellsB (fB (endP T hs t (body.take 0) (· = fr))) (t.length + 1))) := Lib.hid (by rw [← e2]; exact R2)
  have HB2 := Lib.hid (al1 w (.cells ((cellsB (fun _ => false) (t.length + 1)).setIfInBounds fr (.bool true)) 4))
  have i0 : (fr : Int) < (t.length : Int) + 1 := by omega
  clear h R1 R2 e2
  unfold MadeE
  go_enter Try.func136, Try.ntmps136
  go_wp2
  go_loopw [9, 10, 11, 12, 13, 14] (fun x9 x10 _ _ _ _ wr => ∃ (j g : Nat), j ≤ body.length ∧ x10 = .int .i64 (j : Int) ∧ x9 = .slice (some ⟨g, 0, none⟩) (t.length + 1) (t.length + 1) ∧ Row wr g 4 (cellsB (fB (endP T hs t (body.take j) (· = fr))) (t.length + 1)) ∧ w.heap.size ≤ g ∧ Below w.heap.size w wr) (fun _ x _ _ _ _ _ => body.length - (intOf x).toNat)
  case atStart => exact ⟨0, w.heap.size, by omega, rfl, rfl, HR2.out, Nat.le_refl _, HB2.out⟩
  case round =>
    obtain ⟨j, g, hj, rfl, rfl, hrow, hgl, hbw⟩ := hrel
    rename World => wr
    have hsw := hbw.size
    have HROW := Lib.hid hrow
    have HBW := Lib.hid hbw
    have lg := hrow.lt
    clear hrow hbw
    by_cases hlt : j < body.length
    · obtain ⟨b, off, rfl, hbh, _, _, hbj⟩ := (HB.out.below HBW.out hhb).at hlt
      have HES := Lib.hid (endP_take (T := T) (hs := hs) (t := t) (P := (· = fr)) hlt)
      generalize hP : endP T hs t (body.take j) (· = fr) = P at *
      clear hP
      have hbA := al1 wr (.cells (cellsB (fun _ => false) (t.length + 1)) 4)
      have RA := Row.made wr 4 (cellsB (fun _ => false) (t.length + 1))
      have HRA := Lib.hid RA
      have HBA := Lib.hid (HBW.out.trans (hbA.mono hsw))
      have HROWA := Lib.hid (HROW.out.below hbA lg)
      have hbjA := (hbA.cell (p := ⟨b, off + j, none⟩) (by show b < _; omega)).trans hbj
      have hbw2 : b < (wr.alloc (.cells (cellsB (fun _ => false) (t.length + 1)) 4)).heap.size := by simp; omega
      clear hbA RA hbj
      go_wp2_with fail
      refine (tabAt_any hs body[j] p hi A c _ _ (HTAB.out.box.below HBA.out hlp) (HTAB.out.heads.below HBA.out HTAB.out.lt.2)).mono ?_
      rintro _ _ ⟨rfl, rfl⟩
      have hg2 : wr.heap.size < (wr.alloc (.cells (cellsB (fun _ => false) (t.length + 1)) 4)).heap.size := by simp
      have hlgA : g < (wr.alloc (.cells (cellsB (fun _ => false) (t.length + 1)) 4)).heap.size := by simp; omega
      generalize wr.alloc (.cells (cellsB (fun _ => false) (t.length + 1)) 4) = wn at *
      have hgne : g ≠ wr.heap.size := by omega
      generalize wr.heap.size = g2 at *
      have HTB := Lib.hid (HTAB.out)
      have R0 : Row wn g2 4 (cellsB (fB (partP T hs t body[j] P 0)) (t.length + 1)) := by
        have := HRA.out
        rwa [show cellsB (fun _ => false) (t.length + 1) = cellsB (fB (partP T hs t body[j] P 0)) (t.length + 1) from cellsB_congr fun q _ => (fB_f partP_zero).symm] at this
      have HR0 := Lib.hid R0
      clear R0
      have hnext : ∀ (wq : World), Row wq g2 4 (cellsB (fB (partP T hs t body[j] P (t.length + 1))) (t.length + 1)) → Row wq g2 4 (cellsB (fB (endP T hs t (body.take (j + 1)) (· = fr))) (t.length + 1)) := fun wq hr => by
        rw [HES.out]
        rwa [fB_congr fun q _ => partP_all] at hr
      have HNX := Lib.hid hnext
      clear hnext
      have hwn : w.heap.size ≤ wn.heap.size := by omega
      by_cases hm : body[j] ∈ hs
      · rw [atZ_in hm]
        have hix := hIx_lt hm
        have HM := Lib.hid hm
        clear hm
        go_wp2
        go_loopw [13, 14] (fun x _ wq => ∃ k : Nat, k ≤ t.length + 1 ∧ x = .int .i64 (k : Int) ∧ Row wq g2 4 (cellsB (fB (partP T hs t body[j] P k)) (t.length + 1)) ∧ Row wq g 4 (cellsB (fB P) (t.length + 1)) ∧ Below w.heap.size w wq) (fun x _ _ => t.length + 1 - (intOf x).toNat)
        case atStart => exact ⟨0, by omega, rfl, HR0.out, HROWA.out, HBA.out⟩
        case round =>
          obtain ⟨k, hk, rfl, r2, r1, hbq⟩ := hrel
          rename World => wq
          have HR2Q := Lib.hid r2
          have HR1Q := Lib.hid r1
          have HBQ := Lib.hid hbq
          have hsq := hbq.size
          have l1 := r1.lt
          have l2 := r2.lt
          by_cases hlk : k ≤ t.length
          · have i1 : (k : Int) ≤ (t.length : Int) := by omega
            have i2 : (k : Int) < (t.length : Int) + 1 := by omega
            have a1 := r1.cell k
            rw [cellsB_get (by omega)] at a1
            by_cases hP : P k
            · rw [fB_t hP] at a1
              have HP := Lib.hid hP
              have dneg : decide ((hIx hs body[j] : Int) < 0) = false := by simp
              clear hP r1 r2 hbq
              go_wp2
              go_quiet (fail)
              have HR3 : Hid (Row (wq.drewN nq) g2 4 (cellsB (fB (partE T hs t body[j] P k k)) (t.length + 1))) := Lib.hid (by
                rw [fB_congr fun q _ => partE_start]
                exact HR2Q.out)
              have HR4 : Hid (Row (wq.drewN nq) g 4 (cellsB (fB P) (t.length + 1))) := Lib.hid HR1Q.out
              have HB4 : Hid (Below w.heap.size w (wq.drewN nq)) := Lib.hid (below_drewN HBQ.out _)
              clear HR2Q HR1Q HBQ a1 l1 l2 hsq
              generalize wq.drewN nq = wd at HR3 HR4 HB4 ⊢
              go_wp2
              go_loopw [14] (fun x wv => ∃ e0 : Nat, k ≤ e0 ∧ e0 ≤ t.length + 1 ∧ x = .int .i64 (e0 : Int) ∧ Row wv g2 4 (cellsB (fB (partE T hs t body[j] P k e0)) (t.length + 1)) ∧ Row wv g 4 (cellsB (fB P) (t.length + 1)) ∧ Below w.heap.size w wv) (fun x _ => t.length + 1 - (intOf x).toNat)
              case atStart => exact ⟨k, Nat.le_refl _, by omega, rfl, HR3.out, HR4.out, HB4.out⟩
              case round =>
                obtain ⟨e0, hk0, he0, rfl, v2, v1, hbv⟩ := hrel
                rename World => wv
                have HV2 := Lib.hid v2
                have HV1 := Lib.hid v1
                have HBV := Lib.hid hbv
                have hsv := hbv.size
                have lv2 := v2.lt
                by_cases hle : e0 ≤ t.length
                · have i3 : (e0 : Int) ≤ (t.length : Int) := by omega
                  have i4 : (e0 : Int) < (t.length : Int) + 1 := by omega
                  have ige : (0 : Int) ≤ (hIx hs body[j] : Int) := by omega
                  have n1 := v2.cell e0
                  rw [cellsB_get (by omega)] at n1
                  have nf := v2.free e0
                  obtain ⟨rb, y0, y1, y2, y3⟩ := (HTAB.out.below (w' := wv) ⟨hbv.os, hbv.tape, hbv.output, hbv.size, hbv.block⟩).cells (q := 13 * k + e0) hix (by omega)
                  have HB5 := Lib.hid (hbv.setCell (p := ⟨g2, e0, none⟩) (by show w.heap.size ≤ g2; omega) (.bool true))
                  have HB6 := Lib.hid (hbv.setCell (p := ⟨g2, e0, none⟩) (by show w.heap.size ≤ g2; omega) (.bool false))
                  have H15 := Lib.hid (v1.away (p := ⟨g2, e0, none⟩) hgne (.bool true))
                  have H16 := Lib.hid (v1.away (p := ⟨g2, e0, none⟩) hgne (.bool false))
                  have i5 : (hIx hs body[j] : Int) < (hs.length : Int) := by omega
                  have i6 : (13 * (k : Int) + (e0 : Int)) < 169 := by omega
                  have i7 : (13 * (k : Int) + (e0 : Int)).toNat = 13 * k + e0 := by omega
                  have lpv : p < wv.heap.size := by omega
                  have lGv : G < wv.heap.size := by omega
                  by_cases hbe : partE T hs t body[j] P k e0 e0
                  · rw [fB_t hbe] at n1
                    have H25 := Lib.hid (v2.fill (q := e0) (b := true) (Q := partE T hs t body[j] P k (e0 + 1)) (partE_fill hk0 hle ⟨fun _ => .inl hbe, fun _ => rfl⟩))
                    clear hbe v1 v2 hbv
                    go_wp2
                    go_roundw
                    case rel => exact ⟨e0 + 1, by omega, by omega, by go_num, H25.out, H15.out, HB5.out⟩
                    case measure => simp [intOf]; omega
                  · rw [fB_f hbe] at n1
                    cases hT1 : T (hIx hs body[j]) (13 * k + e0)
                    · rw [hT1] at y2
                      have H26 := Lib.hid (v2.fill (q := e0) (b := false) (Q := partE T hs t body[j] P k (e0 + 1)) (partE_fill hk0 hle ⟨(fun h => by cases h), fun h => h.elim (fun h => absurd h hbe) (fun h => by rw [hT1] at h; cases h)⟩))
                      clear hbe v1 v2 hbv hT1
                      go_wp2
                      go_roundw
                      case rel => exact ⟨e0 + 1, by omega, by omega, by go_num, H26.out, H16.out, HB6.out⟩
                      case measure => simp [intOf]; omega
                    · rw [hT1] at y2
                      have H25 := Lib.hid (v2.fill (q := e0) (b := true) (Q := partE T hs t body[j] P k (e0 + 1)) (partE_fill hk0 hle ⟨fun _ => .inr hT1, fun _ => rfl⟩))
                      clear hbe v1 v2 hbv hT1
                      go_wp2
                      go_roundw
                      case rel => exact ⟨e0 + 1, by omega, by omega, by go_num, H25.out, H15.out, HB5.out⟩
                      case measure => simp [intOf]; omega
                · have hee : e0 = t.length + 1 := by omega
                  have i3 : ¬ (e0 : Int) ≤ (t.length : Int) := by omega
                  have HK := Lib.hid (fB_congr (n := t.length + 1) fun q _ => partE_end (T := T) (e := q) HM.out HP.out hlk)
                  have HEE := Lib.hid hee
                  clear hee v1 v2 hbv
                  go_wp2
                  go_roundw
                  case rel => exact ⟨k + 1, by omega, by go_num, by have := HV2.out; rw [HEE.out, HK.out] at this; exact this, HV1.out, HBV.out⟩
                  case measure => simp [intOf]; omega
            · rw [fB_f hP] at a1
              have HK := Lib.hid (fB_congr (n := t.length + 1) fun q _ => partP_skip (T := T) (hs := hs) (t := t) (s := body[j]) (e := q) hP)
              clear hP r1 r2 hbq
              go_wp2
              go_roundw
              case rel => exact ⟨k + 1, by omega, by go_num, by rw [HK.out]; exact HR2Q.out, HR1Q.out, HBQ.out⟩
              case measure => simp [intOf]; omega
          · have hke : k = t.length + 1 := by omega
            have i1 : ¬ (k : Int) ≤ (t.length : Int) := by omega
            have HKE := Lib.hid hke
            clear hke r1 r2 hbq
            go_wp2
            go_roundw
            case rel => exact ⟨j + 1, g2, by omega, by go_num, rfl, HNX.out _ (by have := HR2Q.out; rw [HKE.out] at this; exact this), by omega, HBQ.out⟩
            case measure => simp [intOf]; omega
      · rw [atZ_out hm]
        have HM := Lib.hid hm
        clear hm
        go_wp2
        go_loopw [13, 14] (fun x _ wq => ∃ k : Nat, k ≤ t.length + 1 ∧ x = .int .i64 (k : Int) ∧ Row wq g2 4 (cellsB (fB (partP T hs t body[j] P k)) (t.length + 1)) ∧ Row wq g 4 (cellsB (fB P) (t.length + 1)) ∧ Below w.heap.size w wq) (fun x _ _ => t.length + 1 - (intOf x).toNat)
        case atStart => exact ⟨0, by omega, rfl, HR0.out, HROWA.out, HBA.out⟩
        case round =>
          obtain ⟨k, hk, rfl, r2, r1, hbq⟩ := hrel
          rename World => wq
          have HR2Q := Lib.hid r2
          have HR1Q := Lib.hid r1
          have HBQ := Lib.hid hbq
          have hsq := hbq.size
          have l1 := r1.lt
          have l2 := r2.lt
          by_cases hlk : k ≤ t.length
          · have i1 : (k : Int) ≤ (t.length : Int) := by omega
            have i2 : (k : Int) < (t.length : Int) + 1 := by omega
            have a1 := r1.cell k
            rw [cellsB_get (by omega)] at a1
            by_cases hP : P k
            · rw [fB_t hP] at a1
              have HP := Lib.hid hP
              by_cases hkt : k < t.length
              · obtain ⟨b3, off3, rfl, hb3h, hlc3, hcm3, m0⟩ := (HT.out.below HBQ.out hht).at hkt
                have hb3w : b3 < wq.heap.size := by omega
                have hbjq := (HBQ.out.cell (p := ⟨b, off + j, none⟩) (by show b < _; omega)).trans ((HB.out.at hlt).elim fun b' h => h.elim fun off' h => by obtain ⟨e, _, _, _, h6⟩ := h; injection e with e; injection e with e1 e2; subst e1 e2; exact h6)
                have hbwq : b < wq.heap.size := by omega
                have i3 : (k : Int) < (t.length : Int) := by omega
                by_cases he : t[k] = body[j]
                · have d1 : (t[k].toList == body[j].toList) = true := by rw [list_eqH, decide_eq_true he]
                  have HE : Hid (t[k]? = some body[j]) := Lib.hid (by rw [List.getElem?_eq_getElem hkt, he])
                  clear hP r1 r2 hbq he
                  go_wp2
                  go_quiet (fail)
                  have HR3 : Hid (Row (wq.drewN nq) g2 4 (cellsB (fB (partP T hs t body[j] P k)) (t.length + 1))) := Lib.hid HR2Q.out
                  have HR4 : Hid (Row (wq.drewN nq) g 4 (cellsB (fB P) (t.length + 1))) := Lib.hid HR1Q.out
                  have HB4 : Hid (Below w.heap.size w (wq.drewN nq)) := Lib.hid (below_drewN HBQ.out _)
                  clear HR2Q HR1Q HBQ a1 l1 l2 hsq m0 hbjq hb3w hbwq
                  generalize wq.drewN nq = wd at HR3 HR4 HB4 ⊢
                  have i4 : (k : Int) + 1 < (t.length : Int) + 1 := by omega
                  have n1 := HR3.out.cell (k + 1)
                  rw [cellsB_get (by omega)] at n1
                  have nf := HR3.out.free (k + 1)
                  have l3 := HR3.out.lt
                  have H5 := Lib.hid (HR3.out.fill (q := k + 1) (b := true) (Q := partP T hs t body[j] P (k + 1)) fun q _ => by
                    rw [partP_tok HM.out HP.out HE.out]
                    by_cases e : q = k + 1
                    · simp [e]
                    · simp [e])
                  have H6 := Lib.hid (HR4.out.away (p := ⟨g2, k + 1, none⟩) hgne (.bool true))
                  have H7 := Lib.hid (HB4.out.setCell (p := ⟨g2, k + 1, none⟩) (by show w.heap.size ≤ g2; omega) (.bool true))
                  go_wp2
                  go_loopw [14] (fun x wv => x = .int .i64 (k : Int) ∧ wv = wd.setCell ⟨g2, k + 1, none⟩ (.bool true)) (fun _ _ => 0)
                  case atStart => exact ⟨rfl, rfl⟩
                  case round =>
                    obtain ⟨rfl, rfl⟩ := hrel
                    go_wp2
                    go_roundw
                    case rel => exact ⟨k + 1, by omega, by go_num, H5.out, H6.out, H7.out⟩
                    case measure => simp [intOf]; omega
                · have d1 : (t[k].toList == body[j].toList) = false := by rw [list_eqH, decide_eq_false he]
                  have HE : Hid (t[k]? ≠ some body[j]) := Lib.hid (by rw [List.getElem?_eq_getElem hkt]; intro e; injection e with e; exact he e)
                  clear hP r1 r2 hbq he
                  go_wp2
                  go_quiet (fail)
                  have HR3 : Hid (Row (wq.drewN nq) g2 4 (cellsB (fB (partP T hs t body[j] P (k + 1))) (t.length + 1))) := Lib.hid (by
                    rw [fB_congr fun q _ => partP_no HM.out HE.out]
                    exact HR2Q.out)
                  have HR4 : Hid (Row (wq.drewN nq) g 4 (cellsB (fB P) (t.length + 1))) := Lib.hid HR1Q.out
                  have HB4 : Hid (Below w.heap.size w (wq.drewN nq)) := Lib.hid (below_drewN HBQ.out _)
                  clear HR2Q HR1Q HBQ a1 l1 l2 hsq m0 hbjq hb3w hbwq
                  generalize wq.drewN nq = wd at HR3 HR4 HB4 ⊢
                  go_wp2
                  go_loopw [14] (fun x wv => x = .int .i64 (k : Int) ∧ wv = wd) (fun _ _ => 0)
                  case atStart => exact ⟨rfl, rfl⟩
                  case round =>
                    obtain ⟨rfl, rfl⟩ := hrel
                    go_wp2
                    go_roundw
                    case rel => exact ⟨k + 1, by omega, by go_num, HR3.out, HR4.out, HB4.out⟩
                    case measure => simp [intOf]; omega
              · have hke : k = t.length := by omega
                have d2 : decide ((k : Int) < (t.length : Int)) = false := by simp; omega
                have d3 : decide (k < t.length) = false := by simp; omega
                have HE : Hid (t[k]? ≠ some body[j]) := Lib.hid (by rw [List.getElem?_eq_none (by omega)]; intro e; cases e)
                clear hP r1 r2 hbq hke
                go_wp2
                go_quiet (fail)
                have HR3 : Hid (Row (wq.drewN nq) g2 4 (cellsB (fB (partP T hs t body[j] P (k + 1))) (t.length + 1))) := Lib.hid (by
                  rw [fB_congr fun q _ => partP_no HM.out HE.out]
                  exact HR2Q.out)
                have HR4 : Hid (Row (wq.drewN nq) g 4 (cellsB (fB P) (t.length + 1))) := Lib.hid HR1Q.out
                have HB4 : Hid (Below w.heap.size w (wq.drewN nq)) := Lib.hid (below_drewN HBQ.out _)
                clear HR2Q HR1Q HBQ a1 l1 l2 hsq
                generalize wq.drewN nq = wd at HR3 HR4 HB4 ⊢
                go_wp2
                go_loopw [14] (fun x wv => x = .int .i64 (k : Int) ∧ wv = wd) (fun _ _ => 0)
                case atStart => exact ⟨rfl, rfl⟩
                case round =>
                  obtain ⟨rfl, rfl⟩ := hrel
                  go_wp2
                  go_roundw
                  case rel => exact ⟨k + 1, by omega, by go_num, HR3.out, HR4.out, HB4.out⟩
                  case measure => simp [intOf]; omega
            · rw [fB_f hP] at a1
              have HK := Lib.hid (fB_congr (n := t.length + 1) fun q _ => partP_skip (T := T) (hs := hs) (t := t) (s := body[j]) (e := q) hP)
              clear hP r1 r2 hbq
              go_wp2
              go_roundw
              case rel => exact ⟨k + 1, by omega, by go_num, by rw [HK.out]; exact HR2Q.out, HR1Q.out, HBQ.out⟩
              case measure => simp [intOf]; omega
          · have hke : k = t.length + 1 := by omega
            have i1 : ¬ (k : Int) ≤ (t.length : Int) := by omega
            have HKE := Lib.hid hke
            clear hke r1 r2 hbq
            go_wp2
            go_roundw
            case rel => exact ⟨j + 1, g2, by omega, by go_num, rfl, HNX.out _ (by have := HR2Q.out; rw [HKE.out] at this; exact this), by omega, HBQ.out⟩
            case measure => simp [intOf]; omega
    · have hje : j = body.length := by omega
      have HJE := Lib.hid hje
      clear hje
      go_wp2
      go_ret
      refine ⟨g, rfl, ?_, hgl, HBW.out⟩
      have := HROW.out
      rw [HJE.out, List.take_length] at this
      exact this
end Go.Proofs.Ytonfiahihmcmlaa
