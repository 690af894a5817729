import Derived.Test.YtokdhgocgicdnaaGreatDoorDtw
import Derived.Test.YtokdhgocgicdnaaGreatDoorGramOf
import Derived.Test.YtokdhgocgicdnaaGreatDoorJDtp
import Derived.Deep.CutBlock
/- What stands while a grammar and a tree are drawn. -/
namespace Go.Proofs.YtokdhgocgicdnaaGreatDoor.Dr
open Go.RowKit
open Go.Proofs.YtokdhgocgicdnaaGreatDoor

/-- a list of Kids that stands also if the box at q turns -/
def KidsQ (w : World) (q lo : Nat) (u : Value) (xs : List (TreeD × Value)) : Prop :=
  (∀ w' : World, w.heap.size ≤ w'.heap.size → (∀ k, lo ≤ k → k < w.heap.size → k ≠ q → w'.heap[k]? = w.heap[k]?) → KidsX w' lo u xs) ∧ ∀ b, u.ownBlock = some b → b ≠ q
theorem KidsQ.ahead {w : World} {lo : Nat} {u : Value} {xs : List (TreeD × Value)} (h : KidsX w lo u xs) (o : Obj) : KidsQ (w.alloc o) w.heap.size lo u xs :=
  ⟨fun w' hs e => h.move (by simp at hs; omega) fun k h1 h2 => (e k h1 (by simp; omega) (by omega)).trans (Below.heap_alloc _ _ _ h2), fun b e => by have := (h.own e).2; omega⟩
theorem KidsQ.behind {w wx : World} {q lo : Nat} {u : Value} {xs : List (TreeD × Value)} (h : KidsX w (q + 1) u xs) (hlo : lo ≤ q + 1) (hs : w.heap.size = wx.heap.size) (e : ∀ k, k ≠ q → wx.heap[k]? = w.heap[k]?) : KidsQ wx q lo u xs :=
  ⟨fun w' hs' e' => (h.move (by omega) fun k h1 h2 => (e' k (by omega) (by omega) (by omega)).trans (e k (by omega))).lower hlo, fun b e => by have := (h.own e).1; omega⟩
theorem KidsQ.only {w w' : World} {q lo p : Nat} {u : Value} {xs : List (TreeD × Value)} (h : KidsQ w q lo u xs) (o : Only p w w') (hp : p < lo) : KidsQ w' q lo u xs :=
  ⟨fun w2 hs e => h.1 w2 (by rw [← o.size]; exact hs) fun k h1 h2 h3 => (e k h1 (by rw [o.size]; exact h2) h3).trans (o.block k (by omega)), h.2⟩
theorem KidsQ.next {w w' : World} {q lo : Nat} {u : Value} {xs : List (TreeD × Value)} (h : KidsQ w q lo u xs) (b : Below w.heap.size w w') : KidsQ w' q lo u xs :=
  ⟨fun w2 hs e => h.1 w2 (Nat.le_trans b.size hs) fun k h1 h2 h3 => (e k h1 (Nat.lt_of_lt_of_le h2 b.size) h3).trans (b.block k h2), h.2⟩
theorem KidsQ.drew {w : World} {q lo : Nat} {u : Value} {xs : List (TreeD × Value)} (h : KidsQ w q lo u xs) : KidsQ w.drew q lo u xs := h
theorem KidsQ.set {w : World} {q lo i : Nat} {u : Value} {xs : List (TreeD × Value)} (h : KidsQ w q lo u xs) (x : Value) : KidsX (w.setCell ⟨q, i, none⟩ x) lo u xs :=
  h.1 _ (by simp [World.setCell]) fun k _ _ h3 => Below.heap_setCell _ _ _ _ h3
theorem KidsQ.now {w : World} {q lo : Nat} {u : Value} {xs : List (TreeD × Value)} (h : KidsQ w q lo u xs) : KidsX w lo u xs := h.1 w (Nat.le_refl _) fun _ _ _ _ => rfl
theorem kd_nil (w : World) (lo hi : Nat) : Kd true w lo hi (.slice none 0 0) [] := .mk none 0 [] (fun _ => .slice none 0 0) (Nat.le_refl _) (by unfold maxLen; omega) (fun i h => by simp at h) (fun h => by simp at h) (fun i h => by simp at h)
/-- a leaf more: the list is grown, the box is told -/
theorem KidsQ.push {wx wy : World} {q lo g' cap : Nat} {u : Value} {xs : List (TreeD × Value)} {x : TreeD} (h : KidsQ wx q lo u xs) (ht : TopOk x) (hx : x.kids = []) (hq : q < wx.heap.size) (hlo : lo ≤ wx.heap.size)
    (ho : wy.ownsRow lo 29 3 (.slice (some ⟨g', 0, none⟩) (xs.length + 1) cap) (xs.length + 1) (flatT xs ++ [.int .i64 x.rule, .string x.tok, .slice none 0 0])) (hg : wx.grownBy wy u.ownBlock) (hl : u.ownBlock = some g' ∨ g' = wx.heap.size) :
    KidsX (wy.setCell ⟨q, 2, none⟩ (.slice (some ⟨g', 0, none⟩) (xs.length + 1) cap)) lo (.slice (some ⟨g', 0, none⟩) (xs.length + 1) cap) (xs ++ [(x, .slice none 0 0)]) := by
  have hgq : g' ≠ q := by
    rcases hl with e | e
    · exact h.2 _ e
    · omega
  have z1 : (wx.setCell ⟨q, 2, none⟩ (.slice (some ⟨g', 0, none⟩) (xs.length + 1) cap)).heap.size = wx.heap.size := by simp [World.setCell]
  have z2 : (wy.setCell ⟨q, 2, none⟩ (.slice (some ⟨g', 0, none⟩) (xs.length + 1) cap)).heap.size = wy.heap.size := by simp [World.setCell]
  refine KidsX.push (lo := lo) (hi := lo) (h.set (i := 2) (.slice (some ⟨g', 0, none⟩) (xs.length + 1) cap)) ht (by rw [hx]; exact kd_nil _ _ _) (Nat.le_refl _) (by rw [z1]; exact hlo) (fun b e => .inr (h.now.own e).1) ⟨ho.1, ?_⟩ ⟨hg.os, hg.tape, hg.output, by rw [z1, z2]; exact hg.size, fun k hk hne => ?_⟩ (by rw [z1]; exact hl)
  · rcases ho.2 with a | ⟨g, c, cur, e, hb, hh, r⟩
    · exact .inl a
    · injection e with e1 e2 e3
      injection e1 with e1
      injection e1 with e1
      subst e1 e3
      exact .inr ⟨_, _, cur, rfl, hb, (Below.heap_setCell _ _ _ _ hgq).trans hh, r⟩
  · rw [z1] at hk
    have hb := hg.block k hk hne
    by_cases hkq : k = q
    · subst hkq
      simp [World.setCell, Array.getElem?_modify, hb]
    · exact (Below.heap_setCell _ _ _ _ hkq).trans (hb.trans (Below.heap_setCell _ _ _ _ hkq).symm)
/-- a grammar and a tree that a draw has made -/
def DrawGT (w : World) (p B : Nat) (e : Ending) (w' : World) : Prop :=
  ∃ v rs t u mid, e = .returned (.tuple #[.agg #[v], trV t u]) ∧ Rules w' w.heap.size mid v rs ∧ w.heap.size ≤ mid ∧ mid ≤ w'.heap.size ∧ 1 ≤ rs.length ∧ rs.length ≤ 20 ∧ (∀ r ∈ rs, r.body.length ≤ 5) ∧ TopOk t ∧ bulkT t ≤ 20000 ∧ KidsR w' mid u t.kids ∧ Src w' p B ∧ w.grownBy w' (some p)
/-- the boxes of the results, that of the grammar, its rules, the box of the tree -/
structure GtP (w : World) (p B gq q : Nat) (gv : Value) (rs : List RuleD) (r : Int) (s : ByteArray) (u : Value) (wx : World) : Prop where
  src : Src wx p B
  grw : w.grownBy wx (some p)
  res1 : Row wx w.heap.size 25 #[.slice none 0 0]
  res2 : Row wx (w.heap.size + 1) 29 #[.int .i64 0, .string ⟨#[]⟩, .slice none 0 0]
  gram : Row wx gq 25 #[gv]
  gb : w.heap.size + 2 ≤ gq
  rules : Rules wx (w.heap.size + 2) gq gv rs
  qb : gq < q
  box : Row wx q 29 #[.int .i64 r, .string s, u]
section
variable {w wx wy : World} {p B gq q : Nat} {gv : Value} {rs : List RuleD} {r r' : Int} {s s' : ByteArray} {u u' : Value}
theorem GtP.same (h : GtP w p B gq q gv rs r s u wx) (hs : Src wy p B) (hg : w.grownBy wy (some p)) (e : ∀ k, w.heap.size ≤ k → k ≤ gq → wy.heap[k]? = wx.heap[k]?) (hb : Row wy q 29 #[.int .i64 r', .string s', u']) : GtP w p B gq q gv rs r' s' u' wy := by
  have h1 := h.gb
  exact ⟨hs, hg, h.res1.same (e _ (Nat.le_refl _) (by omega)), h.res2.same (e _ (by omega) (by omega)), h.gram.same (e _ (by omega) (Nat.le_refl _)), h.gb, h.rules.keep (fun k h1 h2 => e k (by omega) (by omega)), h.qb, hb⟩
theorem GtP.only (h : GtP w p B gq q gv rs r s u wx) (o : Only p wx wy) (hs : Src wy p B) (hp : p < w.heap.size) : GtP w p B gq q gv rs r s u wy := by
  have h1 := h.qb
  have h2 := h.gb
  exact h.same hs (grw_trans h.grw o.grown) (fun k h1 _ => o.block k (by omega)) (h.box.same (o.block _ (by omega)))
theorem GtP.next (h : GtP w p B gq q gv rs r s u wx) (b : Below wx.heap.size wx wy) (_hp : p < w.heap.size) : GtP w p B gq q gv rs r s u wy := by
  have h1 := h.qb
  have h2 := h.box.lt
  exact h.same (h.src.only fun k hk => b.block k (by have := h.src.1; have := h.src.lt; omega)) (grw_bel h.grw b) (fun k _ h2 => b.block k (by omega)) (h.box.below b h.box.lt)
theorem GtP.drew (h : GtP w p B gq q gv rs r s u wx) : GtP w p B gq q gv rs r s u wx.drew := h.same (h.src.heap rfl) (grw_drew h.grw) (fun _ _ _ => rfl) h.box
theorem GtP.push {g' cap : Nat} {xs : List (TreeD × Value)} (h : GtP w p B gq q gv rs r s u wx) (hp : p < w.heap.size) (hk : KidsQ wx q (gq + 1) u xs) (hg : wx.grownBy wy u.ownBlock) :
    GtP w p B gq q gv rs r s (.slice (some ⟨g', 0, none⟩) (xs.length + 1) cap) (wy.setCell ⟨q, 2, none⟩ (.slice (some ⟨g', 0, none⟩) (xs.length + 1) cap)) := by
  have h1 := h.qb
  have h2 := h.gb
  have h3 := h.box.lt
  have hB := h.src.1
  have hsl := h.src.lt
  have own := fun b e => (hk.now.own (g := b) e).1
  have e1 : ∀ k, k ≤ gq → wy.heap[k]? = wx.heap[k]? := fun k hk => hg.block k (by omega) (fun e => by have := own _ e.symm; omega)
  have e2 : ∀ k, k ≠ q → (wy.setCell ⟨q, 2, none⟩ (.slice (some ⟨g', 0, none⟩) (xs.length + 1) cap)).heap[k]? = wy.heap[k]? := fun k hk => Below.heap_setCell _ _ _ _ hk
  refine h.same (h.src.only fun k hk => (e2 k (by omega)).trans (e1 k (by omega))) (grw_set (grw_own h.grw hg (fun k e => by have := own _ e; omega)) (by show w.heap.size ≤ q; omega) _) (fun k _ k2 => (e2 k (by omega)).trans (e1 k k2)) ?_
  have := (h.box.same (hg.block q h3 (fun e => hk.2 _ e.symm rfl))).put 2 (.slice (some ⟨g', 0, none⟩) (xs.length + 1) cap)
  simpa using this
/-- the tree's box is written -/
theorem GtP.set (h : GtP w p B gq q gv rs r s u wx) (hp : p < w.heap.size) {i : Nat} {x : Value} (hb : Row (wx.setCell ⟨q, i, none⟩ x) q 29 #[.int .i64 r', .string s', u']) : GtP w p B gq q gv rs r' s' u' (wx.setCell ⟨q, i, none⟩ x) := by
  have h1 := h.qb
  have h2 := h.gb
  have hB := h.src.1
  exact h.same (h.src.only fun k hk => Below.heap_setCell _ _ _ _ (by show k ≠ q; omega)) (grw_set h.grw (by show w.heap.size ≤ q; omega) _) (fun k _ h2 => Below.heap_setCell _ _ _ _ (by show k ≠ q; omega)) hb
/-- the two results are told -/
theorem GtP.fin {t : TreeD} (h : GtP w p B gq q gv rs t.rule t.tok u wx) (hp : p < w.heap.size) (ht : TopOk t) (hn : bulkT t ≤ 20000) (hk : KidsR wx (gq + 1) u t.kids) (h1 : 1 ≤ rs.length) (h2 : rs.length ≤ 20) (h5 : ∀ r ∈ rs, r.body.length ≤ 5)
    (hwy : wy.heap.size = wx.heap.size) (e : ∀ k, k ≠ w.heap.size → k ≠ w.heap.size + 1 → wy.heap[k]? = wx.heap[k]?) (ho : wy.os = wx.os) (htp : wy.tape = wx.tape) (hout : wy.output = wx.output) : DrawGT w p B (.returned (.tuple #[.agg #[gv], trV t u])) wy := by
  have g1 := h.gb
  have g2 := h.qb
  have g3 := h.grw.size
  have hB := h.src.1
  have hgl := h.gram.lt
  refine ⟨gv, rs, t, u, gq + 1, rfl, (h.rules.keep fun k k1 k2 => e k (by omega) (by omega)).more (by omega) (by omega), by omega, by omega, h1, h2, h5, ht, hn, hk.move (by omega) fun k k1 _ => e k (by omega) (by omega), h.src.only fun k hk => e k (by omega) (by omega), ?_⟩
  exact ⟨ho.trans h.grw.os, htp.trans h.grw.tape, hout.trans h.grw.output, by omega, fun k hk hne => (e k (by omega) (by omega)).trans (h.grw.block k hk hne)⟩
end
end Go.Proofs.YtokdhgocgicdnaaGreatDoor.Dr

/- The draw of a grammar and a tree: l05Two. -/
namespace Go.Proofs.YtokdhgocgicdnaaGreatDoor.Dr
open Go.RowKit
open Go.Proofs.YtokdhgocgicdnaaGreatDoor

theorem topOk_leaf {s : ByteArray} (h : s.size ≤ 1000) : TopOk (.node (-1) s []) := ⟨by show s.size ≤ maxLen; unfold maxLen; omega, by show (-9223372036854775808 : Int) ≤ -1; omega, by show (-1 : Int) ≤ _; omega⟩
set_option maxRecDepth 100000 in
set_option maxHeartbeats 8000000 in
theorem two5_any (w : World) (p B : Nat) (hs : Src w p B) :
    Calls Tryz.prog 22 #[.pointer (some ⟨p, 0, none⟩)] w (DrawGT w p B) := by
  obtain ⟨i0, hi0, hz0, hz1, hz2⟩ := info_parts Tryz.infoTreeD
  have hpl := hs.lt
  have A0 := al2 w (.cells #[.slice none 0 0] 25) (.cells #[.int .i64 0, .string ⟨#[]⟩, .slice none 0 0] 29)
  have S0 : Src ((w.alloc (.cells #[.slice none 0 0] 25)).alloc (.cells #[.int .i64 0, .string ⟨#[]⟩, .slice none 0 0] 29)) p B := hs.only fun k hk => A0.block k (by have := hs.1; omega)
  have HG0 : Hid (w.grownBy ((w.alloc (.cells #[.slice none 0 0] 25)).alloc (.cells #[.int .i64 0, .string ⟨#[]⟩, .slice none 0 0] 29)) (some p)) := Lib.hid ⟨A0.os, A0.tape, A0.output, A0.size, fun q hq _ => A0.block q hq⟩
  have HR1 := Lib.hid ((Row.made w 25 #[.slice none 0 0]).alloc (.cells #[.int .i64 0, .string ⟨#[]⟩, .slice none 0 0] 29))
  have HR2 : Hid (Row ((w.alloc (.cells #[.slice none 0 0] 25)).alloc (.cells #[.int .i64 0, .string ⟨#[]⟩, .slice none 0 0] 29)) (w.heap.size + 1) 29 #[.int .i64 0, .string ⟨#[]⟩, .slice none 0 0]) := Lib.hid (by
    have := Row.made (w.alloc (.cells #[.slice none 0 0] 25)) 29 #[.int .i64 0, .string ⟨#[]⟩, .slice none 0 0]
    simpa using this)
  have HZ0 : Hid (((w.alloc (.cells #[.slice none 0 0] 25)).alloc (.cells #[.int .i64 0, .string ⟨#[]⟩, .slice none 0 0] 29)).heap.size = w.heap.size + 2) := Lib.hid (by simp)
  clear hs A0
  go_enter Tryz.func22, Tryz.ntmps22
  go_wp2_with fail
  generalize (w.alloc (.cells #[.slice none 0 0] 25)).alloc (.cells #[.int .i64 0, .string ⟨#[]⟩, .slice none 0 0] 29) = w0 at S0 HG0 HR1 HR2 HZ0 ⊢
  refine (gramOf_any w0 p B S0).mono ?_
  rintro e w1 ⟨v, ys, rfl, hf, hx1, hx2, hx3, -, hs1, hg1⟩
  have z0 := HZ0.out
  have hrl : Rules w1 (w.heap.size + 2) w1.heap.size v (ys.map (·.1)) := by have := hf.done.rules; rw [z0] at this; exact this
  have HRS := Lib.hid hrl
  have HB1 : Hid (∀ r ∈ ys.map (·.1), r.body.length ≤ 5) := Lib.hid fun r hr => by
    obtain ⟨x, hx, rfl⟩ := List.mem_map.1 hr
    exact hx3 x hx
  have hn1 : 1 ≤ (ys.map (·.1)).length := by simpa using hx1
  have hn2 : (ys.map (·.1)).length ≤ 20 := by rw [List.length_map]; omega
  have HG1 := Lib.hid (grw_trans HG0.out hg1)
  have HS1 := Lib.hid hs1
  have HR11 := Lib.hid (HR1.out.same (hg1.block _ (by omega) (fun e => by injection e with e; omega)))
  have HR21 := Lib.hid (HR2.out.same (hg1.block _ (by omega) (fun e => by injection e with e; omega)))
  have z1 : w.heap.size + 2 ≤ w1.heap.size := by have := hg1.size; omega
  generalize ys.map (·.1) = rs at HRS HB1 hn1 hn2 hrl
  obtain ⟨Av, cv, rfl, hlc, hcm, hrc⟩ := hrl
  obtain ⟨bv, ov, rfl, hbv1, hbv2, hrc⟩ := hrc (by omega)
  obtain ⟨hhm, hr0, -⟩ := hrc 0 (by omega)
  unfold maxLen at hcm
  simp only [Nat.zero_mul, Nat.add_zero] at hr0
  have HHM := Lib.hid hhm
  clear hf hx1 hx2 hx3 hs1 hg1 S0 HG0 HR1 HR2 HZ0 z0 hrc hhm
  -- the grammar's box
  have A2 := al1 w1 (.cells #[.slice (some ⟨bv, ov, none⟩) rs.length cv] 25)
  have R2 := Row.made w1 25 #[.slice (some ⟨bv, ov, none⟩) rs.length cv]
  have HZ2 : Hid ((w1.alloc (.cells #[.slice (some ⟨bv, ov, none⟩) rs.length cv] 25)).heap.size = w1.heap.size + 1) := Lib.hid (by simp)
  have HA2 := Lib.hid A2
  have HQ2 := Lib.hid R2
  have hr2 := (A2.cell (p := ⟨bv, ov, none⟩) hbv2).trans hr0
  clear A2 R2 hr0
  go_wp2_with fail
  generalize w1.alloc (.cells #[.slice (some ⟨bv, ov, none⟩) rs.length cv] 25) = w2 at HZ2 HA2 HQ2 hr2 ⊢
  have HS2 : Hid (Src w2 p B) := Lib.hid (HS1.out.only fun k hk => HA2.out.block k (by have := HS1.out.1; have := HS1.out.lt; omega))
  have HG2 := Lib.hid (grw_bel HG1.out HA2.out)
  have HGT : Hid (∀ (wx : World) (q : Nat) (r : Int) (s : ByteArray) (u : Value), Src wx p B → w2.grownBy wx (some p) → w1.heap.size < q → Row wx q 29 #[.int .i64 r, .string s, u] → GtP w p B w1.heap.size q (.slice (some ⟨bv, ov, none⟩) rs.length cv) rs r s u wx) := Lib.hid fun wx q r s u hs9 hg9 hq hb => by
    have z := HZ2.out
    have e : ∀ k, w.heap.size ≤ k → k < w1.heap.size → wx.heap[k]? = w1.heap[k]? := fun k h1 h2 => (hg9.block k (by omega) (fun e => by injection e with e; omega)).trans (HA2.out.block k h2)
    exact ⟨hs9, grw_trans HG2.out hg9, HR11.out.same (e _ (Nat.le_refl _) (by omega)), HR21.out.same (e _ (by omega) (by omega)), HQ2.out.same (hg9.block _ (by omega) (fun e => by injection e with e; omega)), z1, HRS.out.keep (fun k h1 h2 => e k (by omega) h2), hq, hb⟩
  have HC : Hid (∀ wx : World, Src wx p B → w2.grownBy wx (some p) → Calls Tryz.prog 28 #[.pointer (some ⟨p, 0, none⟩), .agg #[.slice (some ⟨bv, ov, none⟩) rs.length cv], .string rs[0].head, .int .i64 5] wx (DrawTr wx p B (bulkM 5))) :=
    Lib.hid fun wx hs9 hg9 => treeOf_any 5 (by omega) rs _ rs[0].head (w.heap.size + 2) w1.heap.size p B wx hs9 (by omega) ((HRS.out.below HA2.out (Nat.le_refl _)).keep (keeps_grown hg9 (by omega) (by have := HZ2.out; omega))) (by have := HZ2.out; have := hg9.size; omega) (by omega) HB1.out HHM.out
  have c2 := HQ2.out.cell 0
  simp at c2
  have lw2 : w1.heap.size < w2.heap.size := HQ2.out.lt
  have lbv : bv < w2.heap.size := by omega
  have hs2d : Src w2.drew p B := HS2.out.heap rfl
  have hs2a : ∀ o, Src (w2.alloc o).drew p B := fun o => (HS2.out.only (w' := w2.alloc o) fun k hk => (al1 w2 o).block k (by have := HS2.out.1; have := HS2.out.lt; omega)).heap rfl
  have hg2d : w2.grownBy w2.drew (some p) := grw_drew (grw_refl p w2)
  have hg2a : ∀ o, w2.grownBy (w2.alloc o).drew (some p) := fun o => grw_drew (grw_alloc (grw_refl p w2) o)
  have HB3 : Hid (∀ w3 : World, (w2.alloc (.cells #[.int .i64 0, .string ⟨#[]⟩, .slice none 0 0] 29)).drew.grownBy w3 (some p) → Row w3 w2.heap.size 29 #[.int .i64 0, .string ⟨#[]⟩, .slice none 0 0]) := Lib.hid fun w3 g => (show Row (w2.alloc (.cells #[.int .i64 0, .string ⟨#[]⟩, .slice none 0 0] 29)).drew w2.heap.size _ _ from Row.made w2 _ _).same (g.block _ (by simp) (fun e => by injection e with e; omega))
  have hgq : w1.heap.size ≠ p := by omega
  have hbp : bv ≠ p := by omega
  have c2d : w2.drew.cell? ⟨w1.heap.size, 0, none⟩ = some (.slice (some ⟨bv, ov, none⟩) rs.length cv) := c2
  have r2d : w2.drew.cell? ⟨bv, ov, none⟩ = some (.string rs[0].head) := hr2
  have n0 : (0 : Int) < (rs.length : Int) := by omega
  have n2 : 0 < rs.length := by omega
  have n1 : (rs.length : Int) ≤ (cv : Int) := by omega
  have HFA : Hid (∀ (w3 : World) (t : TreeD) (u : Value), Src w3 p B → w2.drew.grownBy w3 (some p) → KidsR w3 w2.drew.heap.size u t.kids → GtP w p B w1.heap.size w3.heap.size (.slice (some ⟨bv, ov, none⟩) rs.length cv) rs t.rule t.tok u (w3.alloc (.cells #[.int .i64 t.rule, .string t.tok, u] 29)) ∧ ∃ xs, xs.map (·.1) = t.kids ∧ KidsQ (w3.alloc (.cells #[.int .i64 t.rule, .string t.tok, u] 29)) w3.heap.size (w1.heap.size + 1) u xs) := Lib.hid fun w3 t u s g hk => by
    have z := g.size
    have e2 : w2.drew.heap.size = w2.heap.size := rfl
    have e3 := HZ2.out
    obtain ⟨xs, hx, hk⟩ := hk
    exact ⟨HGT.out _ _ _ _ _ (s.only fun k hk => (al1 w3 _).block k (by have := s.1; have := s.lt; omega)) (grw_alloc (grw_trans hg2d g) _) (by omega) (Row.made w3 _ _), xs, hx, KidsQ.ahead (hk.lower (by omega)) _⟩
  have HFB : Hid (∀ (w3 : World) (o : Obj) (t : TreeD) (u : Value), Row w3 w2.heap.size 29 #[.int .i64 0, .string ⟨#[]⟩, .slice none 0 0] → Src w3 p B → (w2.alloc o).drew.grownBy w3 (some p) → KidsR w3 (w2.alloc o).drew.heap.size u t.kids → GtP w p B w1.heap.size w2.heap.size (.slice (some ⟨bv, ov, none⟩) rs.length cv) rs t.rule t.tok u (((w3.setCell ⟨w2.heap.size, 0, none⟩ (.int .i64 t.rule)).setCell ⟨w2.heap.size, 1, none⟩ (.string t.tok)).setCell ⟨w2.heap.size, 2, none⟩ u) ∧ ∃ xs, xs.map (·.1) = t.kids ∧ KidsQ (((w3.setCell ⟨w2.heap.size, 0, none⟩ (.int .i64 t.rule)).setCell ⟨w2.heap.size, 1, none⟩ (.string t.tok)).setCell ⟨w2.heap.size, 2, none⟩ u) w2.heap.size (w1.heap.size + 1) u xs) := Lib.hid fun w3 o t u hR s g hk => by
    have e2 : (w2.alloc o).drew.heap.size = w2.heap.size + 1 := by show (w2.alloc o).heap.size = _; simp
    have e3 := HZ2.out
    obtain ⟨xs, hx, hk⟩ := hk
    rw [e2] at hk
    exact ⟨HGT.out _ _ _ _ _ (set3_src s (by omega) _ _ _) (set3_grw (grw_trans (hg2a o) g) (Nat.le_refl _) _ _ _) (by omega) (set3_row hR _ _ _), xs, hx, KidsQ.behind hk (by omega) (set3_size _ _ _ _ _).symm (fun k hk => set3_heap _ _ _ _ _ _ hk)⟩
  go_cut [5, 6] from 9 to 19 (fun s5 s6 wx => ∃ q t u ok, s5 = .pointer (some ⟨q, 0, none⟩) ∧ s6 = .bool ok ∧ TopOk t ∧ bulkT t ≤ bulkM 5 ∧ GtP w p B w1.heap.size q (.slice (some ⟨bv, ov, none⟩) rs.length cv) rs t.rule t.tok u wx ∧ ∃ xs, xs.map (·.1) = t.kids ∧ KidsQ wx q (w1.heap.size + 1) u xs)
  case first =>
    go_region_law (go_simp; go_at_call 28; refine (HC.out _ (by first | exact hs2d | exact hs2a _) (by first | exact hg2d | exact hg2a _)).mono ?_; rintro e3 w3 ⟨t, u, ok, rfl, ht, hb, hK, hs3, hg3⟩; obtain ⟨Au, du, rfl⟩ := hK.shape; (try (have RB := HB3.out _ hg3; have rb0 := RB.cell 0; have rb1 := RB.cell 1; have rb2 := RB.cell 2; have rf0 := RB.free 0; have rf1 := RB.free 1; have rf2 := RB.free 2; simp at rb0 rb1 rb2)); unfold trV)
    all_goals
      go_wp2_with fail
      go_meet
      first
        | exact ⟨w3.heap.size, t, _, ok, rfl, rfl, ht, hb, HFA.out w3 t _ hs3 hg3 hK⟩
        | exact ⟨w2.heap.size, t, _, ok, rfl, rfl, ht, hb, HFB.out w3 _ t _ (HB3.out _ hg3) hs3 hg3 hK⟩
  case rest =>
    obtain ⟨q, t, u, ok, rfl, rfl, ht, hb, hP, xs, hxs, hKQ⟩ := hcut
    have hb5 : bulkM 5 = 16405 := by decide
    rw [hb5] at hb
    obtain ⟨Au, du, rfl⟩ := hKQ.now.shape
    rename World => wy
    have HP := Lib.hid hP
    have HKQ := Lib.hid hKQ
    clear hP hKQ HFA HFB HB3 hs2d hs2a hg2d hg2a c2d r2d c2 hr2 HC HGT
    rename_i K9 hK9
    refine hK9 _ _ ?_
    clear hK9
    go_step
    go_cut [] from 20 to 44 (fun wx => ∃ t' u', TopOk t' ∧ bulkT t' ≤ 20000 ∧ GtP w p B w1.heap.size q (.slice (some ⟨bv, ov, none⟩) rs.length cv) rs t'.rule t'.tok u' wx ∧ KidsR wx (w1.heap.size + 1) u' t'.kids)
    case first =>
      go_wp2_with fail
      refine (n_any wy p B 8 HP.out.src (by omega)).mono ?_
      rintro e w6 ⟨r, rfl, -, hr1, hs6, ho6⟩
      obtain ⟨hra, hrb⟩ := hr1 (by omega)
      obtain ⟨m, rfl⟩ := Int.eq_ofNat_of_zero_le hra
      have HP6 := Lib.hid (HP.out.only ho6 hs6 hpl)
      have HK6 := Lib.hid (HKQ.out.only ho6 (by omega))
      clear hr1 hs6 ho6 HP HKQ
      have hxl : xs.length ≤ 16405 := by
        have h1 := bulkT_eq t
        have h2 := length_bulkTs t.kids
        have h3 : t.kids.length = xs.length := by rw [← hxs, List.length_map]
        omega
      have lq6 := HP6.out.box.lt
      have hqb := HP6.out.qb
      have hbk := bulkT_eq t
      have HBK := Lib.hid hbk
      clear hbk
      by_cases m0 : m = 0
      · subst m0
        go_wp2_with fail
        refine (n_any w6 p B 9 HP6.out.src (by omega)).mono ?_
        rintro e w7 ⟨r, rfl, -, hr1, hs7, ho7⟩
        obtain ⟨ra, rb⟩ := hr1 (by omega)
        have HP7 := Lib.hid (HP6.out.only ho7 hs7 hpl)
        have HK7 := Lib.hid (HK6.out.only ho7 (by omega))
        have b0 := HP7.out.box.cell 0
        have f0 := HP7.out.box.free 0
        simp at b0
        have HW : IntKind.i64.wrap (r - 2) = r - 2 := IntWalk.i64_in _ (by omega)
        have HP8 := Lib.hid (HP7.out.set (i := 0) (x := .int .i64 (r - 2)) hpl (r' := r - 2) (s' := t.tok) (u' := .slice Au xs.length du) (by simpa using HP7.out.box.put 0 (.int .i64 (r - 2))))
        have HK8 := Lib.hid (HK7.out.set (i := 0) (.int .i64 (r - 2)))
        have HT8 : Hid (TopOk (.node (r - 2) t.tok t.kids) ∧ bulkT (.node (r - 2) t.tok t.kids) ≤ 20000) := Lib.hid ⟨⟨ht.1, by show (-9223372036854775808 : Int) ≤ r - 2; omega, by show r - 2 ≤ (_ : Int); omega⟩, by simp only [bulkT]; have := HBK.out; omega⟩
        clear hr1 hs7 ho7
        go_wp2
        go_meet
        exact ⟨.node (r - 2) t.tok t.kids, _, HT8.out.1, HT8.out.2, HP8.out, xs, hxs, HK8.out⟩
      have d0 : ((m : Int) == 0) = false := by rw [beq_eq_false_iff_ne]; omega
      by_cases m1 : m = 1
      · subst m1
        have HPA := fun o => Lib.hid (HP6.out.next (al1 w6 o) hpl).drew
        have HKA := fun o => Lib.hid (HK6.out.next (al1 w6 o)).drew
        have b6 := HP6.out.box.cell 2
        simp at b6
        have b6d : w6.drew.cell? ⟨q, 2, none⟩ = some (.slice Au xs.length du) := b6
        have lqd : q < w6.drew.heap.size := lq6
        go_wp2
        go_region_law (first
          | (refine step_append_lies _ (by rfl) _ _ _ (by rfl) (w1.heap.size + 1) 29 i0 _ 3 48 Tryz.underlying27 hi0 hz0 hz1 hz2 rfl (by omega) (.slice Au xs.length du) xs.length (flatT xs) (by rfl) (World.ownsRow.alloc HK7.out.now.1 _) ⟨w7.heap.size, 0, none⟩ 1 1 [.int .i64 (-1), .string tx, .slice none 0 0] (by rfl) (by rfl) (World.news_of_block (cs := #[.int .i64 (-1), .string tx, .slice none 0 0]) (t := 29) (fr := (0, 0)) (heap_alloc_new w7 _)) (tree3_one _ _ _ _ _) (by omega) (by unfold maxLen; omega) (by omega) (by simp <;> omega) (w7.heap.size + 1) (by simp) ?_; intro g9 cap9 w9 hown9 hg9 hl9 hlt9; have HP9 := Lib.hid ((HP7.out.next (al1 w7 _) hpl).push (g' := g9) (cap := cap9) hpl (HK7.out.next (al1 w7 _)) hg9); have HK9 := Lib.hid ((HK7.out.next (al1 w7 _)).push (x := .node (-1) tx []) (topOk_leaf (by omega)) rfl (by simp; omega) (by simp; omega) hown9 hg9 (by simpa using hl9)); have R9 := (HP7.out.box.alloc (.cells #[.int .i64 (-1), .string tx, .slice none 0 0] 29)).same (hg9.block q (by simp; omega) (fun e => HK7.out.2 _ e.symm rfl)); have b9 := R9.cell 2; have f9 := R9.free 2; simp at b9)
          | (go_simp; go_at_call 47; refine (pick_any _ p B w6.heap.size [⟨#[97]⟩, ⟨#[]⟩, ⟨#[65]⟩] 3 rfl (by omega) (by omega) (HPA _).out.src (Row.heap (Row.made w6 _ _) rfl) (by omega)).mono ?_; rintro e w7 ⟨tx, htx, rfl, hs7, ho7⟩; have HP7 := Lib.hid ((HPA _).out.only ho7 hs7 hpl); have HK7 := Lib.hid ((HKA _).out.only ho7 (by omega)); have ht7 := size_all (M := 10) (by decide +kernel) htx; have b7 := HP7.out.box.cell 2; have l7 := HP7.out.box.lt; simp at b7))
        all_goals
          have HT9 : Hid (TopOk (.node t.rule t.tok (t.kids ++ [.node (-1) tx []])) ∧ bulkT (.node t.rule t.tok (t.kids ++ [.node (-1) tx []])) ≤ 20000) := Lib.hid ⟨ht, by simp only [bulkT, bulkTs_snoc, bulkTs]; have := HBK.out; omega⟩
          have HX9 : Hid ((xs ++ [((.node (-1) tx [] : TreeD), (.slice none 0 0 : Value))]).map (·.1) = t.kids ++ [.node (-1) tx []]) := Lib.hid (by rw [List.map_append, hxs]; rfl)
          go_wp2_with fail
          go_meet
          exact ⟨.node t.rule t.tok (t.kids ++ [.node (-1) tx []]), _, HT9.out.1, HT9.out.2, HP9.out, _, HX9.out, HK9.out⟩
      have d1 : ((m : Int) == 1) = false := by rw [beq_eq_false_iff_ne]; omega
      by_cases m2 : m = 2
      · subst m2
        have A6 := al1 w6 (.cells #[.string ⟨#[97]⟩, .string ⟨#[]⟩] 9)
        have HPA := Lib.hid (HP6.out.next A6 hpl)
        have HKA := Lib.hid (HK6.out.next A6)
        have RL := Row.made w6 9 #[.string ⟨#[97]⟩, .string ⟨#[]⟩]
        have hp6 : w6.heap.size ≠ p := by omega
        clear A6
        go_wp2_with fail
        generalize w6.alloc (.cells #[.string ⟨#[97]⟩, .string ⟨#[]⟩] 9) = w7 at HPA HKA RL ⊢
        refine (pick_any w7 p B w6.heap.size [⟨#[97]⟩, ⟨#[]⟩] 2 rfl (by omega) (by omega) HPA.out.src RL hp6).mono ?_
        rintro e w8 ⟨tx, htx, rfl, hs8, ho8⟩
        have ht8 := size_all (M := 10) (by decide +kernel) htx
        have HP8 := Lib.hid (HPA.out.only ho8 hs8 hpl)
        have HK8 := Lib.hid (HKA.out.only ho8 (by omega))
        have b1 := HP8.out.box.cell 1
        have f1 := HP8.out.box.free 1
        simp at b1
        have HP9 := Lib.hid (HP8.out.set (i := 1) (x := .string tx) hpl (r' := t.rule) (s' := tx) (u' := .slice Au xs.length du) (by simpa using HP8.out.box.put 1 (.string tx)))
        have HK9 := Lib.hid (HK8.out.set (i := 1) (.string tx))
        have HT9 : Hid (TopOk (.node t.rule tx t.kids) ∧ bulkT (.node t.rule tx t.kids) ≤ 20000) := Lib.hid ⟨⟨by show tx.size ≤ maxLen; unfold maxLen; omega, ht.2⟩, by simp only [bulkT]; have := HBK.out; omega⟩
        clear hs8 ho8 htx RL
        go_wp2
        go_meet
        exact ⟨.node t.rule tx t.kids, _, HT9.out.1, HT9.out.2, HP9.out, xs, hxs, HK9.out⟩
      have d2 : ((m : Int) == 2) = false := by rw [beq_eq_false_iff_ne]; omega
      have HT9 : Hid (bulkT t ≤ 20000) := Lib.hid (by omega)
      go_wp2
      go_meet
      exact ⟨t, _, ht, HT9.out, HP6.out, xs, hxs, HK6.out.now⟩
    case rest =>
      obtain ⟨t', u', ht', hb', hP', hK'⟩ := hcut
      obtain ⟨Au', du', rfl⟩ := hK'.shape
      rename World => wz
      have HP' := Lib.hid hP'
      have HK' := Lib.hid hK'
      have g0 := hP'.gram.cell 0
      have b0 := hP'.box.cell 0
      have b1 := hP'.box.cell 1
      have b2 := hP'.box.cell 2
      have r0 := hP'.res1.cell 0
      have rf0 := hP'.res1.free 0
      have s0 := hP'.res2.cell 0
      have s1 := hP'.res2.cell 1
      have s2 := hP'.res2.cell 2
      have sf0 := hP'.res2.free 0
      have sf1 := hP'.res2.free 1
      have sf2 := hP'.res2.free 2
      simp at g0 b0 b1 b2 r0 s0 s1 s2
      have gb' := hP'.gb
      have qb' := hP'.qb
      have lq' := hP'.box.lt
      have ng : w.heap.size ≠ w1.heap.size := by omega
      have ng1 : w.heap.size + 1 ≠ w1.heap.size := by omega
      have nq : w.heap.size ≠ q := by omega
      have nq1 : w.heap.size + 1 ≠ q := by omega
      clear hP' hK'
      have hR1 := HP'.out.res1
      have hR2 := HP'.out.res2
      have W1 : Row (wz.setCell ⟨w.heap.size, 0, none⟩ (.slice (some ⟨bv, ov, none⟩) rs.length cv)) w.heap.size 25 #[.slice (some ⟨bv, ov, none⟩) rs.length cv] := by simpa using hR1.put 0 (.slice (some ⟨bv, ov, none⟩) rs.length cv)
      have W2 := hR2.away (p := ⟨w.heap.size, 0, none⟩) (by show w.heap.size + 1 ≠ w.heap.size; omega) (.slice (some ⟨bv, ov, none⟩) rs.length cv)
      have V1 := W1.same (set3_heap (wz.setCell ⟨w.heap.size, 0, none⟩ (.slice (some ⟨bv, ov, none⟩) rs.length cv)) (w.heap.size + 1) (.int .i64 t'.rule) (.string t'.tok) (.slice Au' t'.kids.length du') w.heap.size (by omega))
      have V2 := set3_row W2 (.int .i64 t'.rule) (.string t'.tok) (.slice Au' t'.kids.length du')
      have v0 := V1.cell 0
      have y0 := V2.cell 0
      have y1 := V2.cell 1
      have y2 := V2.cell 2
      simp at v0 y0 y1 y2
      have FIN : Hid (DrawGT w p B (.returned (.tuple #[.agg #[.slice (some ⟨bv, ov, none⟩) rs.length cv], trV t' (.slice Au' t'.kids.length du')])) ((((wz.setCell ⟨w.heap.size, 0, none⟩ (.slice (some ⟨bv, ov, none⟩) rs.length cv)).setCell ⟨w.heap.size + 1, 0, none⟩ (.int .i64 t'.rule)).setCell ⟨w.heap.size + 1, 1, none⟩ (.string t'.tok)).setCell ⟨w.heap.size + 1, 2, none⟩ (.slice Au' t'.kids.length du')).drew) := Lib.hid
        (HP'.out.fin hpl ht' hb' HK'.out hn1 hn2 HB1.out (by show (World.setCell _ _ _).heap.size = _; rw [set3_size]; simp [World.setCell]) (fun k k1 k2 => (set3_heap _ _ _ _ _ _ k2).trans (Below.heap_setCell _ _ _ _ k1)) rfl rfl rfl)
      clear hR1 hR2 W1 W2 V1 V2
      go_wp2
      go_region
      all_goals
        go_wp2
        exact bodyPost_ret (v := .tuple #[.agg #[.slice (some ⟨bv, ov, none⟩) rs.length cv], .agg #[.int .i64 t'.rule, .string t'.tok, .slice Au' t'.kids.length du']]) (by simp [results, Tryz.results22, go_sem, v0, y0, y1, y2]) rfl FIN.out
end Go.Proofs.YtokdhgocgicdnaaGreatDoor.Dr
