/- A Comp that came in, opened: what the law's row reads of it, as data. -/
import Derived.Test.YtlgedjpolmlciaaJCmi
import Derived.Test.YtlgedjpolmlciaaJOpenMades
namespace Go.Proofs.Ytlgedjpolmlciaa
open Go.ChangeShapes Go.WideShapes Go.ChangeAt Go.RowKit Go.Deep

section
variable {H : Type} {enc : TypeId × Value → H} {w : World}
set_option maxRecDepth 100000 in
theorem open_Comp {base : Nat} {v : Value} {d : DataW H} {p : List MemPlace} (hv : Value.okWide Try.prog w .any base 30 v) (h : DataW.Trod enc Try.prog w 0 (fun _ => true) true 30 v d p) :
    ∃ (c : CompD) (vg vm vt : Value), v = cmV vg vm c vt ∧ CompAt false w 0 w.heap.size c vg vm vt := by
  obtain ⟨cs, rfl, hsz⟩ := okWide_struct Try.underlying30 hv
  obtain ⟨l⟩ := cs
  have hC : Try.prog.cellsOf 30 = 6 := by kernel_rfl
  obtain ⟨fuel, hf⟩ := h
  match l, hsz.trans hC with
  | [v0, v1, v2, v3, v4, v5], _ =>
    obtain ⟨xs, n, _, hx, _, hlen, hg⟩ := DataW.trod_struct Try.underlying30 hf
    match xs, hlen with
    | [y0, y1, y2, y3], _ =>
      have g0 := hg 0 _ rfl
      have g1 := hg 1 _ rfl
      have g2 := hg 2 _ rfl
      have g3 := hg 3 _ rfl
      have hk0 : Try.prog.cellsOf 24 = 1 := by kernel_rfl
      have hk1 : Try.prog.cellsOf 25 = 1 := by kernel_rfl
      have hk2 : Try.prog.cellsOf 4 = 1 := by kernel_rfl
      have hk3 : Try.prog.cellsOf 28 = 3 := by kernel_rfl
      simp [Value.cells, hk0] at g0
      simp [Value.cells, hk1] at g1
      simp [Value.cells, hk2] at g2
      simp [Value.cells, hk3] at g3
      obtain ⟨zs, m, _, _, _, hlz, hz⟩ := DataW.trod_struct Try.underlying24 g0
      match zs, hlz with
      | [z0], _ =>
        have k0 := hz 0 _ rfl
        have hkr : Try.prog.cellsOf 22 = 1 := by kernel_rfl
        simp [hkr] at k0
        obtain ⟨rs, hr⟩ := open_Rules k0
        obtain ⟨ms, hm⟩ := open_Mades g1
        obtain ⟨b, e2, _⟩ := DataW.trod_bool Try.underlying4 g2
        obtain ⟨t, u, e3, ht, hk⟩ := open_threeM (fun m _ => open_KidsM m) rfl g3
        simp only [List.cons.injEq, and_true] at e2 e3
        obtain ⟨e3, e4, e5⟩ := e3
        refine ⟨⟨rs, ms, b, t⟩, v0, v1, u, ?_, hr, hm, ht, hk⟩
        rw [e2, e3, e4, e5]
        rfl
end
end Go.Proofs.Ytlgedjpolmlciaa
