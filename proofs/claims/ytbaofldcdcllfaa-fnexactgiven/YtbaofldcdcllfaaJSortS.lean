import Derived.Test.YtbaofldcdcllfaaJGvd
import Derived.Test.YtbaofldcdcllfaaJHeadsS
import Derived.Test.YtbaofldcdcllfaaJRnl
import Derived.Deep.AppendLies
/- A list of texts is appended to an empty one, in a region that draws its order; spec.l07Var. -/
namespace Go.Proofs.Ytbaofldcdcllfaa
open Go.RowKit

theorem step_append_body {w : World} {ops : Array Oper} {o : Oper} {a : Act} {K : Act → World → Prop} {Q : Exit → Act → World → Prop} {E : Prop} (hgd : o.guard = none) (s x : Operand)
    (ho : o.op = .call { callee := .builtin .append, args := #[s, x], argTypes := #[66, 66] })
    (j0 : TypeInfo) (hj0 : Try.prog.info? 9 = some j0) (hy0 : j0.zero = some (.string ByteArray.empty)) (hy1 : j0.size = 1) (hy2 : j0.bytes = 16)
    (base g0 lo hi : Nat) (hown : w.ownsRow base 9 1 (.slice (some ⟨g0, 0, none⟩) 0 0) 0 []) (A : Option Addr) (c : Nat) (ss : List ByteArray) (hst : Strs w lo hi (.slice A ss.length c) ss)
    (hs : a.eval s = .slice (some ⟨g0, 0, none⟩) 0 0) (hx : a.eval x = .slice A ss.length c) (hlen : ss.length ≤ 1000) (hbase : base ≤ w.heap.size)
    (h : ∀ (B : Option Addr) (d : Nat) (w' : World), w'.ownsRow base 9 1 (.slice B ss.length d) ss.length (ss.map Value.string) → Mid g0 (g0 + 1) w w' → K (a.put o.dst (.slice B ss.length d)) w') :
    if Region.wanted o (yielded ops a.tmps) = true then Oper.wp Try.prog o a w K Q else E := by
  have hw : Region.wanted o (yielded ops a.tmps) = true := by simp [Region.wanted, hgd]
  rw [if_pos hw]
  by_cases h0 : ss.length = 0
  · obtain rfl : ss = [] := List.eq_nil_of_length_eq_zero h0
    have hsrc : Src Try.prog j0.size 66 (.slice A 0 c) 0 [] w := by
      cases A with
      | none => exact Src.ofNil w Try.underlying66 c
      | some ad => exact Src.ofSlice w Try.underlying66 ad 0 c [] (by simp) (by simp) (by simp)
    have hrun := run_append_nothing (P := Try.prog) w 66 66 o.type 9 j0 Try.underlying66 hj0 (some ⟨g0, 0, none⟩) 0 0 (Nat.le_refl _) (.slice A 0 c) hsrc
    have hx' : a.eval x = .slice A 0 c := hx
    unfold Oper.wp
    simp [execOp, ho, resolve, invoke, builtin, hs, hx', hrun, Result.andThen]
    exact h (some ⟨g0, 0, none⟩) 0 w hown (Mid.refl _ _ _)
  · have hp : 0 < ss.length := by omega
    obtain ⟨A', c', e, _, _, _, hcell⟩ := hst
    injection e with e1 _ e3
    subst e1 e3
    obtain ⟨b, off, rfl, _, _, hcc⟩ := hcell hp
    refine wp_append_own w s x 66 ho base 9 j0 _ 1 16 Try.underlying66 hj0 hy0 hy1 hy2 rfl (by decide) (.slice (some ⟨g0, 0, none⟩) 0 0) 0 [] hs hown ⟨b, off, none⟩ ss.length c (ss.map Value.string) hx (by simp) (fun j u hu => ?_) (fun u hu => ?_) (by unfold maxLen; omega) (by omega) hbase fun v1 w1 hown1 hg1 _ => ?_
    · rw [List.getElem?_map] at hu
      obtain ⟨t, ht, rfl⟩ := Option.map_eq_some_iff.1 hu
      obtain ⟨hj, rfl⟩ := List.getElem?_eq_some_iff.1 ht
      rw [show (⟨b, off, none⟩ : Addr).add j = ⟨b, off + j, none⟩ by unfold Addr.add; split <;> simp_all]
      exact hcc j hj
    · obtain ⟨t, _, rfl⟩ := List.mem_map.1 hu
      rfl
    · rw [Nat.zero_add, List.nil_append] at hown1
      have hv : ∃ B d, v1 = .slice B ss.length d := by
        rcases hown1.2 with ⟨_, hh⟩ | ⟨g, cap, cur, rfl, _⟩
        · exact absurd hh h0
        · exact ⟨_, _, rfl⟩
      obtain ⟨B, d, rfl⟩ := hv
      exact h B d w1 hown1 ⟨hg1.os, hg1.tape, hg1.output, hg1.size, fun k hk hkk => hg1.block k hk fun e => by
        have : k = g0 := by simpa [Value.ownBlock] using e
        omega⟩

set_option maxRecDepth 100000 in
set_option maxHeartbeats 1000000 in
theorem l07Var_any (n : Int) (w : World) :
    Calls Try.prog 65 #[.int .i64 n] w fun e w' => e = .returned (.agg #[.int .i64 2, .int .i64 n, .slice none 0 0]) ∧ Below w.heap.size w w' := by
  have a := al1 w (.cells #[.int .i64 2, .int .i64 n, .slice none 0 0] 69)
  have R := Row.made w 69 #[.int .i64 2, .int .i64 n, .slice none 0 0]
  have c0 := R.cell 0
  have c1 := R.cell 1
  have c2 := R.cell 2
  simp at c0 c1 c2
  go_enter Try.func65, Try.ntmps65
  go_wp2
  exact bodyPost_ret (v := .agg #[.int .i64 2, .int .i64 n, .slice none 0 0]) (by simp [results, Try.results65, go_sem]) rfl ⟨rfl, a⟩
end Go.Proofs.Ytbaofldcdcllfaa

/- The walk of the model's l03Sort. -/
namespace Go.Proofs.Ytbaofldcdcllfaa
open Go.RowKit

def filtB (hs ins : List ByteArray) (k : Nat) : List ByteArray := (hs.take k).filter fun s => inB ins s
theorem filtB_t {hs ins : List ByteArray} {k : Nat} (h : k < hs.length) (hb : inB ins hs[k] = true) : filtB hs ins (k + 1) = filtB hs ins k ++ [hs[k]] := by
  unfold filtB; rw [List.take_succ_eq_append_getElem h, List.filter_append]; simp [hb]
theorem filtB_f {hs ins : List ByteArray} {k : Nat} (h : k < hs.length) (hb : inB ins hs[k] = false) : filtB hs ins (k + 1) = filtB hs ins k := by
  unfold filtB; rw [List.take_succ_eq_append_getElem h, List.filter_append]; simp [hb]
theorem filtB_mem {hs ins : List ByteArray} {k : Nat} {s : ByteArray} (h : s ∈ filtB hs ins k) : s ∈ hs := List.mem_of_mem_take (List.mem_filter.1 h).1
theorem filtB_len (hs ins : List ByteArray) (k : Nat) : (filtB hs ins k).length ≤ k := by
  unfold filtB
  refine Nat.le_trans (List.length_filter_le _ _) ?_
  rw [List.length_take]; omega

set_option maxRecDepth 100000 in
set_option maxHeartbeats 2000000 in
theorem specSort_any (rs : List RuleD) (v x : Value) (ins : List ByteArray) (lo hi lo' hi' : Nat) (w : World) (h : Rules w lo hi v rs) (hh : hi ≤ w.heap.size) (hl20 : rs.length ≤ 1000) (hx : Strs w lo' hi' x ins) (hh' : hi' ≤ w.heap.size) :
    Calls Try.prog 112 #[.agg #[v], x] w (MadeS w ((hsOf rs).filter fun s => inB ins s)) := by
  obtain ⟨i0, hi0, hz0, hz1, hz2⟩ := info_parts Try.infoStr
  have HV := Lib.hid h
  have HX := Lib.hid hx
  obtain ⟨A, c, rfl, -⟩ := h
  obtain ⟨X, xc, rfl, -⟩ := hx
  have hb := al2 w (.cells #[.slice A rs.length c] 41) (.cells #[] 9)
  have R0 := (Row.made w 41 #[.slice A rs.length c]).alloc (.cells #[] 9)
  have c0 := R0.cell 0
  simp at c0
  have hln := headsTo_len rs rs.length
  clear R0
  go_enter Try.func112, Try.ntmps112
  go_wp2_with fail
  refine (specHeadsOf_any rs _ lo hi _ (HV.out.below hb hh) (by simp; omega) (by omega)).mono ?_
  rintro e w1 ⟨u, g, rfl, ho, hg, b1⟩
  change OwnS w1 g u (hsOf rs) at ho
  change (hsOf rs).length ≤ rs.length at hln
  have hg1 : hsOf rs ≠ [] → w.heap.size + 2 ≤ g ∧ g < w1.heap.size := fun hn => by have := hg hn; simpa using this
  have ST := ho.strs hg1
  have hs1 := b1.size
  have N0 : Sts w1 (w.heap.size + 1) (.slice (some ⟨w.heap.size + 1, 0, none⟩) 0 0) [] := by
    have h0 : Sts _ _ (.slice (some ⟨(w.alloc (.cells #[.slice A rs.length c] 41)).heap.size, 0, none⟩) 0 0) [] := Sts.nil (w.alloc (.cells #[.slice A rs.length c] 41)) (base := w.heap.size + 1) (by simp)
    have e : (w.alloc (.cells #[.slice A rs.length c] 41)).heap.size = w.heap.size + 1 := by simp
    rw [e] at h0
    exact h0.below b1
  have hb1 := hb.trans (b1.mono (by simp; omega))
  have hsz : w.heap.size + 2 ≤ w1.heap.size := by simpa using hs1
  have HST := Lib.hid ST
  have HXS := Lib.hid ((HX.out.below hb1 hh'))
  obtain ⟨Ah, ch, rfl, hlc, hc, hss, hcell⟩ := ST
  unfold maxLen at hc
  have HC := Lib.hid hcell
  have HZ : Hid (∀ k, ∀ s ∈ filtB (hsOf rs) ins k, s.size ≤ maxLen) := Lib.hid fun k s hs => hss s (filtB_mem hs)
  have HB1 := Lib.hid hb1
  clear hcell hss b1 hb ho hg hg1 hb1
  go_wp2
  go_loopw [5, 7] (fun y i wr => ∃ k : Nat, k ≤ (hsOf rs).length ∧ i = .int .i64 k ∧ Sts wr (w.heap.size + 1) y (filtB (hsOf rs) ins k) ∧ (∀ b, y.ownBlock = some b → b = w.heap.size + 1 ∨ w1.heap.size ≤ b) ∧ Keeps (w.heap.size + 2) w1.heap.size w1 wr ∧ Below w.heap.size w wr ∧ w1.heap.size ≤ wr.heap.size) (fun _ i _ => (hsOf rs).length - (intOf i).toNat)
  case atStart => exact ⟨0, by omega, rfl, N0, fun b hb => by simp [Value.ownBlock] at hb; omega, Keeps.refl _ _ _, HB1.out, Nat.le_refl _⟩
  case round =>
    obtain ⟨k, hk, rfl, hsts, how, hkp, hbw, hsw⟩ := hrel
    have hfl := filtB_len (hsOf rs) ins k
    by_cases hlt : k < (hsOf rs).length
    · obtain ⟨b, off, rfl, hbl, hbh, hcc⟩ := HC.out (by omega)
      have hck := (hkp.cell (p := ⟨b, off + k, none⟩) hbl hbh).trans (hcc k hlt)
      have HXr := Lib.hid (HX.out.below hbw hh')
      clear hcc
      cases hin : inB ins (hsOf rs)[k]
      · have HI := Lib.hid hin
        have HF := Lib.hid (filtB_f hlt hin)
        clear hin
        go_wp2_with fail
        refine (specIn_any _ ins (hsOf rs)[k] lo' hi' _ HXr.out).mono ?_
        rintro e w2 ⟨rfl, rfl⟩
        rw [HI.out]
        go_wp2
        go_roundw
        case rel => exact ⟨k + 1, by omega, by go_num, by rw [HF.out]; exact hsts, how, hkp, hbw, hsw⟩
        case measure => simp [intOf]; omega
      · have HI := Lib.hid hin
        have HF := Lib.hid (filtB_t hlt hin)
        clear hin
        have HS := Lib.hid hsts
        have HOW := Lib.hid how
        have HKP := Lib.hid hkp
        obtain ⟨By, dy, rfl⟩ := hsts.shape
        clear hsts how hkp
        go_wp2_with fail
        refine (specIn_any _ ins (hsOf rs)[k] lo' hi' _ HXr.out).mono ?_
        rintro e w2 ⟨rfl, rfl⟩
        rw [HI.out]
        go_wp2_with (at_builtin; refine wpList_append_lies _ rfl _ _ 66 rfl (w.heap.size + 1) 9 i0 (.string ByteArray.empty) 1 16 Try.underlying66 hi0 hz0 hz1 hz2 rfl (by decide) _ _ _ rfl (World.ownsRow.alloc HS.out _) ⟨wr.heap.size, 0, none⟩ 1 1 [.string (hsOf rs)[k]] rfl rfl (cell_one_new _ _ _) (one_str _) (by omega) (by unfold maxLen; omega) (by omega) (by simp; omega) (wr.heap.size + 1) (by simp) ?_)
        intro gg cap w3 hown3 hg3 hat3 hlt3
        have s3 : Sts w3 (w.heap.size + 1) (.slice (some ⟨gg, 0, none⟩) ((filtB (hsOf rs) ins k).length + 1) cap) (filtB (hsOf rs) ins (k + 1)) := by
          rw [HF.out]
          exact Sts.one _ hown3
        have B3 : Below w.heap.size w w3 := Tx.below_grown (hbw.trans ((al1 wr _).mono hbw.size)) (World.ownsRow.alloc HS.out _) hg3 (by simp; omega) (by omega)
        have z3 : w1.heap.size ≤ w3.heap.size := by have := hg3.size; simp at this; omega
        have o3 : ∀ b, (Value.slice (some ⟨gg, 0, none⟩) ((filtB (hsOf rs) ins k).length + 1) cap).ownBlock = some b → b = w.heap.size + 1 ∨ w1.heap.size ≤ b := fun b hb => by
          have : gg = b := by simpa [Value.ownBlock] using hb
          subst this
          rcases hat3 with hat | hat
          · exact HOW.out _ hat
          · omega
        have K3 : Keeps (w.heap.size + 2) w1.heap.size w1 w3 := HKP.out.trans fun j hj1 hj2 => (hg3.block j (by simp; omega) fun e => by
          have := HOW.out j e.symm
          omega).trans (Below.heap_alloc _ _ _ (by omega))
        clear hown3 hg3 hat3 hlt3
        go_wp2
        go_roundw
        case rel => exact ⟨k + 1, by omega, by go_num, s3, o3, K3, B3, z3⟩
        case measure => simp [intOf]; omega
    · have hks : k = (hsOf rs).length := by omega
      subst hks
      obtain ⟨g, ho, hg⟩ := hsts.own (HZ.out _)
      have HE : Hid (filtB (hsOf rs) ins (hsOf rs).length = (hsOf rs).filter fun s => inB ins s) := Lib.hid (by unfold filtB; rw [List.take_length])
      rw [HE.out] at ho hg
      clear hsts
      go_wp2
      go_ret
      exact ⟨_, g, rfl, ho, fun hn => by have := hg hn; omega, hbw⟩
end Go.Proofs.Ytbaofldcdcllfaa
