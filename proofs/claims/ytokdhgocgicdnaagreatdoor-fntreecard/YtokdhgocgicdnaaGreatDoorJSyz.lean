import Derived.Test.YtokdhgocgicdnaaGreatDoorJSsy
import Derived.Test.YtokdhgocgicdnaaGreatDoorJEq
import Derived.Test.YtokdhgocgicdnaaGreatDoorJHeadsS
import Derived.Test.YtokdhgocgicdnaaGreatDoorJReadS
import Derived.Test.YtokdhgocgicdnaaGreatDoorJStr
import Derived.Maps.AppendAt
import Derived.Test.YtokdhgocgicdnaaGreatDoorJFull
/- The texts of a tree, as data; the model: spec.l05Yield, spec.Yield. -/
namespace Go.Proofs.YtokdhgocgicdnaaGreatDoor
open Go.RowKit

mutual
/-- all texts that are not empty, from left to right -/
def yieldT : TreeD → List ByteArray | .node _ s ks => (if s.size = 0 then [] else [s]) ++ yieldTs ks
def yieldTs : List TreeD → List ByteArray | [] => [] | t :: ts => yieldT t ++ yieldTs ts
end
theorem yieldT_eq (t : TreeD) : yieldT t = (if t.tok.size = 0 then [] else [t.tok]) ++ yieldTs t.kids := by cases t; rfl
theorem yieldTs_append (a b : List TreeD) : yieldTs (a ++ b) = yieldTs a ++ yieldTs b := by
  induction a with
  | nil => simp [yieldTs]
  | cons t ts ih => simp [yieldTs, ih]
theorem yieldTs_take (ts : List TreeD) (k : Nat) (h : k < ts.length) : yieldTs (ts.take (k + 1)) = yieldTs (ts.take k) ++ yieldT ts[k] := by
  rw [List.take_succ_eq_append_getElem h, yieldTs_append]; simp [yieldTs]
theorem yieldTs_len (ts : List TreeD) : (yieldTs ts).length ≤ sizeTs ts := by
  refine kids_ind (p := fun ts => (yieldTs ts).length ≤ sizeTs ts) (fun ts ih => ?_) ts
  have key : ∀ k, k ≤ ts.length → (yieldTs (ts.take k)).length ≤ sizeTs (ts.take k) := by
    intro k
    induction k with
    | zero => intro _; simp [yieldTs]
    | succ k ih2 =>
      intro hk
      have h1 := ih2 (by omega)
      have h2 := ih k (by omega)
      rw [yieldTs_take ts k (by omega), sizeTs_take ts k (by omega), List.length_append, yieldT_eq, List.length_append, sizeT_eq]
      split <;> simp <;> omega
  have := key ts.length (Nat.le_refl _)
  rwa [List.take_length] at this
theorem yieldT_len (t : TreeD) : (yieldT t).length ≤ sizeT t := by
  rw [yieldT_eq, List.length_append, sizeT_eq]
  have := yieldTs_len t.kids
  split <;> simp <;> omega
/-- every text is no longer than can be -/
theorem yieldTs_small {z : Bool} {w : World} {lo hi : Nat} {v : Value} {ts : List TreeD} (h : Kd z w lo hi v ts) : ∀ s ∈ yieldTs ts, s.size ≤ maxLen := by
  induction h with
  | mk A c ts U hl hc hs hcell sub ih =>
    have key : ∀ k, k ≤ ts.length → ∀ s ∈ yieldTs (ts.take k), s.size ≤ maxLen := by
      intro k
      induction k with
      | zero => intro _ s hs; simp [yieldTs] at hs
      | succ k ih2 =>
        intro hk s hm
        rw [yieldTs_take ts k (by omega), List.mem_append, yieldT_eq, List.mem_append] at hm
        rcases hm with hm | hm | hm
        · exact ih2 (by omega) s hm
        · split at hm
          · simp at hm
          · rw [List.mem_singleton] at hm
            rw [hm]
            exact (hs k (by omega)).1
        · exact ih k (by omega) s hm
    have := key ts.length (Nat.le_refl _)
    rwa [List.take_length] at this

/-- only the list's own block has turned, and what is new -/
structure Gr (v v' : Value) (w w' : World) : Prop where
  grown : w.grownBy w' v.ownBlock
  own : v'.ownBlock = v.ownBlock ∨ ∃ g, v'.ownBlock = some g ∧ w.heap.size ≤ g
theorem Gr.refl (v : Value) (w : World) : Gr v v w w := ⟨⟨rfl, rfl, rfl, Nat.le_refl _, fun _ _ _ => rfl⟩, .inl rfl⟩
theorem Gr.trans {v v' v'' : Value} {a b c : World} (h : Gr v v' a b) (k : Gr v' v'' b c) : Gr v v'' a c := by
  refine ⟨⟨k.grown.os.trans h.grown.os, k.grown.tape.trans h.grown.tape, k.grown.output.trans h.grown.output, Nat.le_trans h.grown.size k.grown.size, fun i h1 h2 => ?_⟩, ?_⟩
  · have := h.grown.size
    refine (k.grown.block i (by omega) fun e => ?_).trans (h.grown.block i h1 h2)
    rcases h.own with e1 | ⟨g, e1, e2⟩
    · exact h2 (by rw [e, e1])
    · rw [e1] at e; injection e with e; omega
  · have := h.grown.size
    rcases k.own with e1 | ⟨g, e1, e2⟩
    · rw [e1]; exact h.own
    · exact .inr ⟨g, e1, by omega⟩
theorem Gr.below {v v' : Value} {a b c : World} (h : Gr v v' a b) (k : Below b.heap.size b c) : Gr v v' a c :=
  h.trans ⟨⟨k.os, k.tape, k.output, k.size, fun i h1 _ => k.block i h1⟩, .inl rfl⟩
theorem Gr.to_below {v v' : Value} {B : Nat} {w w' : World} (h : Gr v v' w w') (hB : B ≤ w.heap.size) (hb : ∀ g, v.ownBlock = some g → B ≤ g) : Below B w w' :=
  ⟨h.grown.os, h.grown.tape, h.grown.output, h.grown.size, fun i hi => h.grown.block i (by omega) fun e => by have := hb i e.symm; omega⟩

def SpL (t : TreeD) : Prop := ∀ (z : Bool) (u v : Value) (ss : List ByteArray) (base lo hi : Nat) (w : World), Kd z w lo hi u t.kids → Sts w base v ss → hi ≤ base → base ≤ w.heap.size → ss.length + sizeT t ≤ 2097152 →
  Calls Tryz.prog 30 #[trV t u, v] w fun e w' => ∃ v', e = .returned v' ∧ Sts w' base v' (ss ++ yieldT t) ∧ Gr v v' w w'

set_option maxRecDepth 100000 in
set_option maxHeartbeats 4000000 in
theorem specYield_of (t : TreeD) (ih : ∀ i (h : i < t.kids.length), SpL t.kids[i]) : SpL t := by
  intro z u v ss base lo hi w hk hs hb hbs hn
  have hst := sizeT_eq t
  have HY := Lib.hid (yieldT_eq t)
  obtain ⟨A, c, U, rfl, hlc, hc, _, hcell, hsub⟩ := hk.parts
  have HC := Lib.hid hcell
  have HB := Lib.hid hsub
  have b0 := al1 w (.cells #[.int .i64 t.rule, .string t.tok, .slice A t.kids.length c] 29)
  have R0 := Row.made w 29 #[.int .i64 t.rule, .string t.tok, .slice A t.kids.length c]
  have HS0 := Lib.hid (hs.below b0)
  have G0 := (Gr.refl v w).below b0
  have hown := World.ownsRow.lt hs
  obtain ⟨Av, cv, rfl⟩ := hs.shape
  obtain ⟨i0, hi0, hz0, hz1, hz2⟩ := info_parts Tryz.infoStr
  unfold maxLen at hc
  have HOWN := Lib.hid hown
  clear hk hcell hsub hs hown
  unfold trV
  by_cases h0 : t.tok.size = 0
  · have e0 : (t.tok.toList == []) = true := by rw [toks_empty, decide_eq_true h0]
    have HP : Hid (yieldT t = yieldTs t.kids) := Lib.hid (by rw [HY.out, if_pos h0]; simp)
    go_enter Tryz.func30, Tryz.ntmps30
    go_wp2
    generalize w.alloc (.cells #[.int .i64 t.rule, .string t.tok, .slice A t.kids.length c] 29) = w0 at HS0 G0 R0 ⊢
    have HPL : Hid (ss.length + sizeT t ≤ 2097152) := Lib.hid hn
    go_loopg [1, 5] t.kids.length (fun gk s1 s5 wr => ∃ (k : Nat) (v1 : Value) (acc : List ByteArray), k ≤ t.kids.length ∧ s5 = .int .i64 k ∧ s1 = v1 ∧ Sts wr base v1 acc ∧ acc = ss ++ yieldTs (t.kids.take k) ∧ Gr (.slice Av ss.length cv) v1 w wr ∧ Row wr w.heap.size 29 #[.int .i64 t.rule, .string t.tok, .slice A t.kids.length c] ∧ gk = t.kids.length - k)
    case atStart => exact ⟨0, _, ss, by omega, rfl, rfl, HS0.out, by simp [yieldTs], G0, R0, rfl⟩
    case round =>
      obtain ⟨k, v1, acc, hk, rfl, rfl, hs1, hacc, hg1, hr1, rfl⟩ := hrel
      have HACC := Lib.hid hacc
      clear hacc
      have HS1 := Lib.hid hs1
      have HG1 := Lib.hid hg1
      have HR1 := Lib.hid hr1
      have hsz := hg1.grown.size
      have c2 := hr1.cell 2
      simp at c2
      have hl2 := hr1.lt
      obtain ⟨A1, c1, rfl⟩ := hs1.shape
      by_cases hlt : k < t.kids.length
      · obtain ⟨b1, off, rfl, _, hbh, _, hcc⟩ := HC.out (by omega)
        obtain ⟨hc0, hc1, hc2⟩ := hcc k hlt
        have B0 := hg1.to_below (B := base) hbs (fun g hg => (HOWN.out g hg).1)
        have k0 := (B0.cell (p := ⟨b1, off + k * 3, none⟩) (by show b1 < _; omega)).trans hc0
        have k1 := (B0.cell (p := ⟨b1, off + k * 3 + 1, none⟩) (by show b1 < _; omega)).trans hc1
        have k2 := (B0.cell (p := ⟨b1, off + k * 3 + 2, none⟩) (by show b1 < _; omega)).trans hc2
        have HKD := Lib.hid ((HB.out k hlt).under B0 hb)
        have hsk := sizeTs_take t.kids k hlt
        have hsl := sizeTs_take_le t.kids (k + 1)
        have hyl := yieldTs_len (t.kids.take k)
        have HYS := Lib.hid (yieldTs_take t.kids k hlt)
        have hbw : b1 < wr.heap.size := by omega
        have HLEN : Hid (acc.length + sizeT t.kids[k] ≤ 2097152) := Lib.hid (by rw [HACC.out, List.length_append]; have := HPL.out; omega)
        clear hcc hc0 hc1 hc2 B0 hs1 hg1 hr1 hsk hsl hyl
        go_wp2_with fail
        refine (ih k hlt z (U k) _ _ base lo hi wr HKD.out HS1.out hb (by omega) HLEN.out).mono ?_
        rintro e w2 ⟨v2, rfl, hs2, hg2⟩
        have HS2 := Lib.hid hs2
        have HG2 := Lib.hid (HG1.out.trans hg2)
        have HR2 := Lib.hid (HR1.out.same (hg2.grown.block w.heap.size hl2 (fun e => by
          rcases HG1.out.own with e1 | ⟨g, e1, e2⟩
          · rw [e1] at e
            have := (HOWN.out _ e.symm).2
            omega
          · obtain ⟨cur9, hcur9⟩ : ∃ cur, Row wr g 9 cur := by
              rcases HS1.out.2 with ⟨q, _⟩ | ⟨g', cap', cur', q, _, hh, _⟩
              · rw [q] at e1; simp [Value.ownBlock] at e1
              · rw [q] at e1
                obtain rfl : g' = g := by simpa [Value.ownBlock] using e1
                exact ⟨cur', hh⟩
            rw [e1] at e
            injection e with e
            subst e
            exact HR1.out.apart hcur9 (by decide) rfl)))
        obtain ⟨A2, c2', rfl⟩ := hs2.shape
        generalize hac2 : acc ++ yieldT t.kids[k] = acc2 at HS2 HG2 HR2 ⊢
        have HAC2 := Lib.hid hac2
        clear hs2 hg2 hac2
        go_wp2
        go_roundg (t.kids.length - (k + 1))
        case rel => exact ⟨k + 1, _, _, by omega, by go_num, rfl, HS2.out, by rw [HYS.out, ← HAC2.out, HACC.out, List.append_assoc], HG2.out, HR2.out, rfl⟩
        case measure => omega
      · have hke : k = t.kids.length := by omega
        have HE := Lib.hid hke
        clear hke hs1 hg1 hr1
        go_wp2
        go_ret
        refine ⟨_, rfl, ?_, HG1.out⟩
        have e9 := HACC.out
        rw [HE.out, List.take_length] at e9
        rw [HP.out, ← e9]
        exact HS1.out
  · have e0 : (t.tok.toList == []) = false := by rw [toks_empty, decide_eq_false h0]
    have HP : Hid (yieldT t = [t.tok] ++ yieldTs t.kids) := Lib.hid (by rw [HY.out, if_neg h0])
    have HNW := Lib.hid (cell_one_new (w.alloc (.cells #[.int .i64 t.rule, .string t.tok, .slice A t.kids.length c] 29)) (.string t.tok) 9)
    go_enter Tryz.func30, Tryz.ntmps30
    go_wp2_with (at_builtin; refine wpList_append_own_at _ rfl _ _ 26 rfl base 9 i0 (.string ByteArray.empty) 1 16 Tryz.underlying26 hi0 hz0 hz1 hz2 rfl (by decide) (.slice Av ss.length cv) ss.length (ss.map Value.string) rfl (World.ownsRow.alloc HS0.out _) ⟨w.heap.size + 1, 0, none⟩ 1 1 [.string t.tok] rfl rfl (by simpa using HNW.out) (one_str _) (by unfold maxLen; omega) (by omega) (by simp; omega) ?_)
    intro v1 w1 hown1 hg1 _ hob
    have HPL : Hid (ss.length + sizeT t ≤ 2097152) := Lib.hid hn
    have A4 := al1 (w.alloc (.cells #[.int .i64 t.rule, .string t.tok, .slice A t.kids.length c] 29)) (.cells #[.string t.tok] 9)
    have HS9 := Lib.hid (Sts.one t.tok hown1)
    have O4 := World.ownsRow.alloc HS0.out (.cells #[.string t.tok] 9)
    have HR9 := Lib.hid (Tx.row_grown (R0.alloc (.cells #[.string t.tok] 9)) O4 (by decide) hg1)
    have HG9 : Hid (Gr (.slice Av ss.length cv) v1 w w1) := Lib.hid ((G0.below A4).trans ⟨hg1, by
      rcases hob with e | e
      · exact .inl e
      · exact .inr ⟨_, e, by simp⟩⟩)
    obtain ⟨A9, c9, rfl⟩ := HS9.out.shape
    rw [List.length_append] at *
    clear hown1 hg1 hob A4 O4 hn
    go_wp2
    go_loopg [1, 5] t.kids.length (fun gk s1 s5 wr => ∃ (k : Nat) (v1 : Value) (acc : List ByteArray), k ≤ t.kids.length ∧ s5 = .int .i64 k ∧ s1 = v1 ∧ Sts wr base v1 acc ∧ acc = (ss ++ [t.tok]) ++ yieldTs (t.kids.take k) ∧ Gr (.slice Av ss.length cv) v1 w wr ∧ Row wr w.heap.size 29 #[.int .i64 t.rule, .string t.tok, .slice A t.kids.length c] ∧ gk = t.kids.length - k)
    case atStart => exact ⟨0, _, ss ++ [t.tok], by omega, rfl, rfl, HS9.out, by simp [yieldTs], HG9.out, HR9.out, rfl⟩
    case round =>
      obtain ⟨k, v1, acc, hk, rfl, rfl, hs1, hacc, hg1, hr1, rfl⟩ := hrel
      have HACC := Lib.hid hacc
      clear hacc
      have HS1 := Lib.hid hs1
      have HG1 := Lib.hid hg1
      have HR1 := Lib.hid hr1
      have hsz := hg1.grown.size
      have c2 := hr1.cell 2
      simp at c2
      have hl2 := hr1.lt
      obtain ⟨A1, c1, rfl⟩ := hs1.shape
      by_cases hlt : k < t.kids.length
      · obtain ⟨b1, off, rfl, _, hbh, _, hcc⟩ := HC.out (by omega)
        obtain ⟨hc0, hc1, hc2⟩ := hcc k hlt
        have B0 := hg1.to_below (B := base) hbs (fun g hg => (HOWN.out g hg).1)
        have k0 := (B0.cell (p := ⟨b1, off + k * 3, none⟩) (by show b1 < _; omega)).trans hc0
        have k1 := (B0.cell (p := ⟨b1, off + k * 3 + 1, none⟩) (by show b1 < _; omega)).trans hc1
        have k2 := (B0.cell (p := ⟨b1, off + k * 3 + 2, none⟩) (by show b1 < _; omega)).trans hc2
        have HKD := Lib.hid ((HB.out k hlt).under B0 hb)
        have hsk := sizeTs_take t.kids k hlt
        have hsl := sizeTs_take_le t.kids (k + 1)
        have hyl := yieldTs_len (t.kids.take k)
        have HYS := Lib.hid (yieldTs_take t.kids k hlt)
        have hbw : b1 < wr.heap.size := by omega
        have HLEN : Hid (acc.length + sizeT t.kids[k] ≤ 2097152) := Lib.hid (by rw [HACC.out, List.length_append, List.length_append]; have := HPL.out; simp only [List.length_cons, List.length_nil]; omega)
        clear hcc hc0 hc1 hc2 B0 hs1 hg1 hr1 hsk hsl hyl
        go_wp2_with fail
        refine (ih k hlt z (U k) _ _ base lo hi wr HKD.out HS1.out hb (by omega) HLEN.out).mono ?_
        rintro e w2 ⟨v2, rfl, hs2, hg2⟩
        have HS2 := Lib.hid hs2
        have HG2 := Lib.hid (HG1.out.trans hg2)
        have HR2 := Lib.hid (HR1.out.same (hg2.grown.block w.heap.size hl2 (fun e => by
          rcases HG1.out.own with e1 | ⟨g, e1, e2⟩
          · rw [e1] at e
            have := (HOWN.out _ e.symm).2
            omega
          · obtain ⟨cur9, hcur9⟩ : ∃ cur, Row wr g 9 cur := by
              rcases HS1.out.2 with ⟨q, _⟩ | ⟨g', cap', cur', q, _, hh, _⟩
              · rw [q] at e1; simp [Value.ownBlock] at e1
              · rw [q] at e1
                obtain rfl : g' = g := by simpa [Value.ownBlock] using e1
                exact ⟨cur', hh⟩
            rw [e1] at e
            injection e with e
            subst e
            exact HR1.out.apart hcur9 (by decide) rfl)))
        obtain ⟨A2, c2', rfl⟩ := hs2.shape
        generalize hac2 : acc ++ yieldT t.kids[k] = acc2 at HS2 HG2 HR2 ⊢
        have HAC2 := Lib.hid hac2
        clear hs2 hg2 hac2
        go_wp2
        go_roundg (t.kids.length - (k + 1))
        case rel => exact ⟨k + 1, _, _, by omega, by go_num, rfl, HS2.out, by rw [HYS.out, ← HAC2.out, HACC.out, List.append_assoc], HG2.out, HR2.out, rfl⟩
        case measure => omega
      · have hke : k = t.kids.length := by omega
        have HE := Lib.hid hke
        clear hke hs1 hg1 hr1
        go_wp2
        go_ret
        refine ⟨_, rfl, ?_, HG1.out⟩
        have e9 := HACC.out
        rw [HE.out, List.take_length] at e9
        rw [HP.out, ← List.append_assoc, ← e9]
        exact HS1.out
theorem specYieldL_any (t : TreeD) : SpL t := tree_ind specYield_of t
end Go.Proofs.YtokdhgocgicdnaaGreatDoor

/- The texts of a tree: the model's spec.Yield. -/
namespace Go.Proofs.YtokdhgocgicdnaaGreatDoor
open Go.RowKit

def yieldOf (t : TreeD) : List ByteArray := if sizeT t ≤ 200 then yieldT t else []
theorem yieldT_small {z : Bool} {w : World} {lo hi : Nat} {v : Value} {t : TreeD} (ht : TopOk t) (h : Kd z w lo hi v t.kids) : ∀ s ∈ yieldT t, s.size ≤ maxLen := by
  intro s hs
  rw [yieldT_eq, List.mem_append] at hs
  rcases hs with hs | hs
  · split at hs
    · simp at hs
    · rw [List.mem_singleton] at hs; rw [hs]; exact ht.1
  · exact yieldTs_small h s hs
theorem yieldOf_len (t : TreeD) : (yieldOf t).length ≤ 1000 := by
  unfold yieldOf
  split
  · have := yieldT_len t; omega
  · simp

set_option maxRecDepth 100000 in
set_option maxHeartbeats 4000000 in
theorem specYield_any (t : TreeD) (u : Value) (lo hi : Nat) (w : World) (ht : TopOk t) (hk : Kd true w lo hi u t.kids) (hh : hi ≤ w.heap.size) (hn : sizeT t ≤ 2097152) :
    Calls Tryz.prog 13 #[trV t u] w fun e w' => MadeS w (yieldOf t) e w' := by
  have b0 := al1 w (.cells #[.int .i64 t.rule, .string t.tok, u] 29)
  have R0 := Row.made w 29 #[.int .i64 t.rule, .string t.tok, u]
  have HK := Lib.hid (hk.under b0 hh)
  have HSM := Lib.hid (yieldT_small ht hk)
  have hsz : (w.alloc (.cells #[.int .i64 t.rule, .string t.tok, u] 29)).heap.size = w.heap.size + 1 := by simp
  have HSZ := Lib.hid hsz
  have HB0 := Lib.hid b0
  obtain ⟨A, c, U, rfl, -⟩ := hk.parts
  clear hk ht hsz b0
  unfold trV
  go_enter Tryz.func13, Tryz.ntmps13
  go_wp2_with fail
  generalize w.alloc (.cells #[.int .i64 t.rule, .string t.tok, .slice A t.kids.length c] 29) = w0 at R0 HK HSZ HB0 ⊢
  have z0 := HSZ.out
  refine (specSize5_any t true _ lo hi 200 w0 HK.out (by omega) hn (by omega) (by omega)).mono ?_
  rintro e w1 ⟨r, rfl, hup, b1⟩
  have HU := Lib.hid (upto_big hup)
  have z1 := b1.size
  have B1 := Lib.hid (HB0.out.trans (b1.mono (by omega)))
  have R1 := R0.below b1 (by omega)
  have c0 := R1.cell 0
  have c1 := R1.cell 1
  have c2 := R1.cell 2
  simp at c0 c1 c2
  have hl1 := R1.lt
  have HK1 := Lib.hid (HK.out.under b1 (by omega))
  clear hup R1 R0
  by_cases hbig : sizeT t ≤ 200
  · have nb : decide (r > 200) = false := by rw [HU.out]; simp [hbig]
    have HY : Hid (yieldOf t = yieldT t) := Lib.hid (by unfold yieldOf; rw [if_pos hbig])
    have HNIL := Lib.hid (Sts.nil w1 (base := w.heap.size + 1) (by omega))
    have A1 := al1 w1 (.cells #[] 9)
    have HA1 := Lib.hid A1
    have HK2 := Lib.hid (HK1.out.under A1 (by omega))
    clear b1 A1
    go_wp2_with fail
    refine (specYieldL_any t true _ _ [] (w.heap.size + 1) lo hi _ HK2.out HNIL.out (by omega) (by simp; omega) (by simp; omega)).mono ?_
    rintro e w2 ⟨v2, rfl, hs2, hg2⟩
    have HS2 := Lib.hid hs2
    have HG2 := Lib.hid hg2
    obtain ⟨A2, c2', rfl⟩ := hs2.shape
    clear hs2 hg2
    go_wp2
    go_ret
    have hs3 := HS2.out
    rw [List.nil_append] at hs3
    obtain ⟨g, h1, h2⟩ := Sts.own hs3 HSM.out
    rw [HY.out]
    refine ⟨_, g, rfl, h1, fun hne => ?_, ?_⟩
    · have := h2 hne; omega
    · refine (B1.out.trans (HA1.out.mono (by omega))).trans (HG2.out.to_below (B := w.heap.size) (by simp; omega) (fun g' hg' => ?_))
      have : w1.heap.size = g' := by simpa [Value.ownBlock] using hg'
      omega
  · have nb : decide (r > 200) = true := by rw [HU.out]; simp [hbig]
    have HY : Hid (yieldOf t = []) := Lib.hid (by unfold yieldOf; rw [if_neg hbig])
    clear b1
    go_wp2
    go_ret
    rw [HY.out]
    exact ⟨_, 0, rfl, ⟨_, _, rfl, Nat.le_refl _, by unfold maxLen; omega, by simp, fun h => by simp at h⟩, fun h => absurd rfl h, B1.out.trans ((al1 w1 _).mono (by omega))⟩
end Go.Proofs.YtokdhgocgicdnaaGreatDoor

/- The texts of a tree, in a list that can be grown: the model's spec.Yield. -/
namespace Go.Proofs.YtokdhgocgicdnaaGreatDoor
open Go.RowKit

set_option maxRecDepth 100000 in
set_option maxHeartbeats 4000000 in
theorem specYield_sts (t : TreeD) (u : Value) (lo hi : Nat) (w : World) (ht : TopOk t) (hk : Kd true w lo hi u t.kids) (hh : hi ≤ w.heap.size) (hn : sizeT t ≤ 2097152) :
    Calls Tryz.prog 13 #[trV t u] w fun e w' => ∃ v, e = .returned v ∧ Sts w' w.heap.size v (yieldOf t) ∧ Below w.heap.size w w' := by
  have b0 := al1 w (.cells #[.int .i64 t.rule, .string t.tok, u] 29)
  have R0 := Row.made w 29 #[.int .i64 t.rule, .string t.tok, u]
  have HK := Lib.hid (hk.under b0 hh)
  have HSM := Lib.hid (yieldT_small ht hk)
  have hsz : (w.alloc (.cells #[.int .i64 t.rule, .string t.tok, u] 29)).heap.size = w.heap.size + 1 := by simp
  have HSZ := Lib.hid hsz
  have HB0 := Lib.hid b0
  obtain ⟨A, c, U, rfl, -⟩ := hk.parts
  clear hk ht hsz b0
  unfold trV
  go_enter Tryz.func13, Tryz.ntmps13
  go_wp2_with fail
  generalize w.alloc (.cells #[.int .i64 t.rule, .string t.tok, .slice A t.kids.length c] 29) = w0 at R0 HK HSZ HB0 ⊢
  have z0 := HSZ.out
  refine (specSize5_any t true _ lo hi 200 w0 HK.out (by omega) hn (by omega) (by omega)).mono ?_
  rintro e w1 ⟨r, rfl, hup, b1⟩
  have HU := Lib.hid (upto_big hup)
  have z1 := b1.size
  have B1 := Lib.hid (HB0.out.trans (b1.mono (by omega)))
  have R1 := R0.below b1 (by omega)
  have c0 := R1.cell 0
  have c1 := R1.cell 1
  have c2 := R1.cell 2
  simp at c0 c1 c2
  have hl1 := R1.lt
  have HK1 := Lib.hid (HK.out.under b1 (by omega))
  clear hup R1 R0
  by_cases hbig : sizeT t ≤ 200
  · have nb : decide (r > 200) = false := by rw [HU.out]; simp [hbig]
    have HY : Hid (yieldOf t = yieldT t) := Lib.hid (by unfold yieldOf; rw [if_pos hbig])
    have HNIL := Lib.hid (Sts.nil w1 (base := w.heap.size + 1) (by omega))
    have A1 := al1 w1 (.cells #[] 9)
    have HA1 := Lib.hid A1
    have HK2 := Lib.hid (HK1.out.under A1 (by omega))
    clear b1 A1
    go_wp2_with fail
    refine (specYieldL_any t true _ _ [] (w.heap.size + 1) lo hi _ HK2.out HNIL.out (by omega) (by simp; omega) (by simp; omega)).mono ?_
    rintro e w2 ⟨v2, rfl, hs2, hg2⟩
    have HS2 := Lib.hid hs2
    have HG2 := Lib.hid hg2
    obtain ⟨A2, c2', rfl⟩ := hs2.shape
    clear hs2 hg2
    go_wp2
    go_ret
    have hs3 := HS2.out
    rw [List.nil_append] at hs3
    rw [HY.out]
    refine ⟨_, rfl, hs3.lower (by omega), ?_⟩
    · refine (B1.out.trans (HA1.out.mono (by omega))).trans (HG2.out.to_below (B := w.heap.size) (by simp; omega) (fun g' hg' => ?_))
      have : w1.heap.size = g' := by simpa [Value.ownBlock] using hg'
      omega
  · have nb : decide (r > 200) = true := by rw [HU.out]; simp [hbig]
    have HY : Hid (yieldOf t = []) := Lib.hid (by unfold yieldOf; rw [if_neg hbig])
    clear b1
    go_wp2
    go_ret
    rw [HY.out]
    exact ⟨_, rfl, Sts.nil w1 (by omega), B1.out.trans ((al1 w1 _).mono (by omega))⟩
end Go.Proofs.YtokdhgocgicdnaaGreatDoor
