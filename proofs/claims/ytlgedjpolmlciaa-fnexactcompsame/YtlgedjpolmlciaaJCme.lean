import Derived.Test.YtlgedjpolmlciaaJGmf
import Derived.Test.YtlgedjpolmlciaaJRnw
import Derived.Test.YtlgedjpolmlciaaJIadm
import Derived.Test.YtlgedjpolmlciaaJCmi
/- One variable more in a list of a node's Kids; impl.variable. -/
namespace Go.Proofs.Ytlgedjpolmlciaa
open Go.RowKit

theorem term_news (w : World) (a b c : Value) : ∀ j u, [a, b, c][j]? = some u → (w.alloc (.cells #[a, b, c] 39)).cell? ((⟨w.heap.size, 0, none⟩ : Addr).add j) = some u :=
  World.news_of_block (cs := #[a, b, c]) (t := 39) (fr := (0, 0)) (heap_alloc_new _ _)
theorem term_one (a b : Int) (A : Option Addr) (n c : Nat) : ∀ u ∈ [Value.int .i64 a, .int .i64 b, .slice A n c], u.oneCell' = true := by
  intro u hu
  simp only [List.mem_cons, List.not_mem_nil, or_false] at hu
  rcases hu with rfl | rfl | rfl <;> rfl
/-- one variable more -/
theorem OneV.step {wx wr wc w6 : World} {g j gg capg dv : Nat} {Bv : Option Addr} {ki nu : Value} (hgl : g < wx.heap.size) (RG : Row wr g 39 #[ki, nu, .slice Bv j dv])
    (st : wr.ownsRow wx.heap.size 39 3 (.slice Bv j dv) j (flatV j)) (hm : Mid g (g + 1) wx wr) (bd : Below wr.heap.size wr wc)
    (hown : w6.ownsRow wx.heap.size 39 3 (.slice (some ⟨gg, 0, none⟩) (j + 1) capg) (j + 1) (flatV j ++ [.int .i64 2, .int .i64 (j : Int), .slice none 0 0])) (hg : (wc.alloc (.cells #[.int .i64 2, .int .i64 (j : Int), .slice none 0 0] 39)).grownBy w6 (Value.slice Bv j dv).ownBlock) :
    Row (w6.setCell ⟨g, 2, none⟩ (.slice (some ⟨gg, 0, none⟩) (j + 1) capg)) g 39 #[ki, nu, .slice (some ⟨gg, 0, none⟩) (j + 1) capg] ∧ (w6.setCell ⟨g, 2, none⟩ (.slice (some ⟨gg, 0, none⟩) (j + 1) capg)).ownsRow wx.heap.size 39 3 (.slice (some ⟨gg, 0, none⟩) (j + 1) capg) (j + 1) (flatV (j + 1)) ∧ Mid g (g + 1) wx (w6.setCell ⟨g, 2, none⟩ (.slice (some ⟨gg, 0, none⟩) (j + 1) capg)) := by
  have hgg := (hown.lt gg rfl).1
  have hb := bd.size
  have h1 := hm.size
  have h2 : wc.heap.size + 1 ≤ w6.heap.size := by have := hg.size; simpa using this
  have low : ∀ p, p < wx.heap.size → w6.heap[p]? = wr.heap[p]? := fun p hp => by
    rw [hg.block p (by simp; omega) (fun e => by have := (st.lt p e.symm).1; omega), Below.heap_alloc _ _ _ (by omega)]
    exact bd.block p (by omega)
  refine ⟨?_, ?_, hg.os.trans (bd.os.trans hm.os), hg.tape.trans (bd.tape.trans hm.tape), hg.output.trans (bd.output.trans hm.output), by simp [World.setCell]; omega, fun p p1 p2 => ?_⟩
  · have r : Row w6 g 39 #[ki, nu, .slice Bv j dv] := RG.same (low g hgl)
    simpa using r.put 2 (.slice (some ⟨gg, 0, none⟩) (j + 1) capg)
  · rw [flatV_succ]
    refine own_keep hown fun q hq => ?_
    obtain rfl : gg = q := by simpa [Value.ownBlock] using hq
    exact Below.heap_setCell _ _ _ _ (by show gg ≠ g; omega)
  · rw [Below.heap_setCell _ _ _ _ (by show p ≠ g; omega), low p p1]
    exact hm.block p p1 p2
end Go.Proofs.Ytlgedjpolmlciaa

/- Two Comps of the same data, held against each other: eqComp. -/
namespace Go.Proofs.Ytlgedjpolmlciaa
open Go.RowKit

theorem Row.six9 {w : World} {g : Nat} {T : TypeId} {a b c d e f : Value} (h : Row w g T #[a, b, c, d, e, f]) : w.cell? ⟨g, 0, none⟩ = some a ∧ w.cell? ⟨g, 1, none⟩ = some b ∧ w.cell? ⟨g, 2, none⟩ = some c ∧ w.cell? ⟨g, 3, none⟩ = some d ∧ w.cell? ⟨g, 4, none⟩ = some e ∧ w.cell? ⟨g, 5, none⟩ = some f ∧ g < w.heap.size :=
  ⟨by simpa using h.cell 0, by simpa using h.cell 1, by simpa using h.cell 2, by simpa using h.cell 3, by simpa using h.cell 4, by simpa using h.cell 5, h.lt⟩
set_option maxRecDepth 100000 in
set_option maxHeartbeats 2000000 in
theorem eqComp_any (c : CompD) (z : Bool) (vg vm vt ug um ut : Value) (lo hi lo' hi' : Nat) (w : World) (h : CompAt z w lo hi c vg vm vt) (h' : CompAt z w lo' hi' c ug um ut) (hh : hi ≤ w.heap.size) (hh' : hi' ≤ w.heap.size) :
    Calls Try.prog 8 #[cmV vg vm c vt, cmV ug um c ut] w fun e w' => e = .returned (.bool true) ∧ Below w.heap.size w w' := by
  have b2 := al2 w (.cells #[vg, vm, .bool c.has, .int .i64 c.null.kind, .int .i64 c.null.num, vt] 41) (.cells #[ug, um, .bool c.has, .int .i64 c.null.kind, .int .i64 c.null.num, ut] 41)
  have RA := (Row.made w 41 #[vg, vm, .bool c.has, .int .i64 c.null.kind, .int .i64 c.null.num, vt]).alloc (.cells #[ug, um, .bool c.has, .int .i64 c.null.kind, .int .i64 c.null.num, ut] 41)
  have RB : Row ((w.alloc (.cells #[vg, vm, .bool c.has, .int .i64 c.null.kind, .int .i64 c.null.num, vt] 41)).alloc (.cells #[ug, um, .bool c.has, .int .i64 c.null.kind, .int .i64 c.null.num, ut] 41)) (w.heap.size + 1) 41 #[ug, um, .bool c.has, .int .i64 c.null.kind, .int .i64 c.null.num, ut] := by
    simpa using Row.made (w.alloc (.cells #[vg, vm, .bool c.has, .int .i64 c.null.kind, .int .i64 c.null.num, vt] 41)) 41 #[ug, um, .bool c.has, .int .i64 c.null.kind, .int .i64 c.null.num, ut]
  have hz : ((w.alloc (.cells #[vg, vm, .bool c.has, .int .i64 c.null.kind, .int .i64 c.null.num, vt] 41)).alloc (.cells #[ug, um, .bool c.has, .int .i64 c.null.kind, .int .i64 c.null.num, ut] 41)).heap.size = w.heap.size + 2 := by simp
  have HA := Lib.hid (h.under b2 hh)
  have HB := Lib.hid (h'.under b2 hh')
  have HB2 := Lib.hid b2
  have HRA := Lib.hid RA
  have HRB := Lib.hid RB
  have HZ := Lib.hid hz
  have HE := Lib.hid (eqRs_t (rfl : c.rules = c.rules))
  obtain ⟨Ag, cg, rfl, -⟩ := h.rules
  obtain ⟨Am, cm, rfl, -⟩ := h.mades
  obtain ⟨At, ct, Ut, rfl, -⟩ := h.kids.parts
  obtain ⟨Bg, dg, rfl, -⟩ := h'.rules
  obtain ⟨Bm, dm, rfl, -⟩ := h'.mades
  obtain ⟨Bt, dt, Vt, rfl, -⟩ := h'.kids.parts
  obtain ⟨a0, -⟩ := HRA.out.six9
  obtain ⟨b0, -⟩ := HRB.out.six9
  clear h h' b2 RA RB hz
  unfold cmV
  go_enter Try.func8, Try.ntmps8
  go_wp2_with fail
  generalize (w.alloc (.cells #[.slice Ag c.rules.length cg, .slice Am c.mades.length cm, .bool c.has, .int .i64 c.null.kind, .int .i64 c.null.num, .slice At c.null.kids.length ct] 41)).alloc (.cells #[.slice Bg c.rules.length dg, .slice Bm c.mades.length dm, .bool c.has, .int .i64 c.null.kind, .int .i64 c.null.num, .slice Bt c.null.kids.length dt] 41) = w0 at HA HB HB2 HRA HRB HZ ⊢
  clear a0 b0
  have z0 := HZ.out
  refine (eqGram_any _ _ c.rules c.rules lo hi lo' hi' _ HA.out.rules HB.out.rules (by omega) (by omega)).mono ?_
  rintro e w1 ⟨rfl, b1⟩
  rw [HE.out]
  have z1 := b1.size
  have HA1 := Lib.hid (HA.out.under b1 (by omega))
  have HB1 := Lib.hid (HB.out.under b1 (by omega))
  have HC1 := Lib.hid (HB2.out.trans (b1.mono (by omega)))
  have HRA1 := Lib.hid (HRA.out.below b1 (by omega))
  have HRB1 := Lib.hid (HRB.out.below b1 (by omega))
  obtain ⟨-, a1, -⟩ := HRA1.out.six9
  obtain ⟨-, d1, -⟩ := HRB1.out.six9
  clear b1
  go_wp2_with fail
  clear a1 d1
  refine (eqMadeS_any c.mades z _ _ _ _ _ _ _ HA1.out.mades HB1.out.mades (by omega) (by omega)).mono ?_
  rintro e w2 ⟨rfl, b2⟩
  have z2 := b2.size
  have HA2 := Lib.hid (HA1.out.under b2 (by omega))
  have HB2' := Lib.hid (HB1.out.under b2 (by omega))
  have HC2 := Lib.hid (HC1.out.trans (b2.mono (by omega)))
  have HRA2 := Lib.hid (HRA1.out.below b2 (by omega))
  have HRB2 := Lib.hid (HRB1.out.below b2 (by omega))
  obtain ⟨-, -, a2, a3, a4, a5, -⟩ := HRA2.out.six9
  obtain ⟨-, -, d2, d3, d4, d5, -⟩ := HRB2.out.six9
  have hne : (c.has != c.has) = false := by simp
  clear b2
  go_wp2_with fail
  clear a2 a3 a4 a5 d2 d3 d4 d5 hne
  have step := eqTerm_any c.null z (.slice At c.null.kids.length ct) (.slice Bt c.null.kids.length dt) lo hi lo' hi' w2 HA2.out.kids HB2'.out.kids (by omega) (by omega)
  unfold tmV at step
  refine step.mono ?_
  clear step
  rintro e w3 ⟨rfl, b3⟩
  have FIN := Lib.hid (HC2.out.trans (b3.mono (by omega)))
  clear b3
  go_wp2
  go_ret
  exact ⟨rfl, FIN.out⟩
end Go.Proofs.Ytlgedjpolmlciaa
