import Derived.Test.YtlgedjpolmlciaaJTmq
import Derived.Test.YtlgedjpolmlciaaJTmz
import Derived.Deep.LoopGhost
import Derived.StillTailTactics
/- Are two lists of texts alike? spec.l07Same. -/
namespace Go.Proofs.Ytlgedjpolmlciaa
open Go.RowKit

set_option maxRecDepth 100000 in
set_option maxHeartbeats 1000000 in
theorem l07Same_any (v u : Value) (ss ts : List ByteArray) (lo hi lo' hi' : Nat) (w : World) (h : Strs w lo hi v ss) (h' : Strs w lo' hi' u ts) :
    Calls Try.prog 13 #[v, u] w fun e w' => e = .returned (.bool (eqSs ss ts)) ∧ ∃ n, w' = w.drewN n := by
  obtain ⟨A, c, rfl, hlc, hc, hsz, hcell⟩ := h
  obtain ⟨A', c', rfl, hlc', hc', hsz', hcell'⟩ := h'
  unfold maxLen at hc hc'
  by_cases hn : ss.length = ts.length
  · have d0 : ((ss.length : Int) != (ts.length : Int)) = false := by rw [bne_eq_false_iff_eq]; omega
    have HN := Lib.hid hn
    have HC := Lib.hid hcell
    have HC' := Lib.hid hcell'
    clear hcell hsz hcell' hsz' hn
    go_enter Try.func13, Try.ntmps13
    go_wp2
    go_loopw [5] (fun i wr => ∃ (k n : Nat), k ≤ ss.length ∧ i = .int .i64 k ∧ wr = w.drewN n ∧ (∀ j (h : j < ss.length), j < k → ss[j] = ts[j]'(by have := HN.out; omega))) (fun i _ => ss.length - (intOf i).toNat)
    case atStart => exact ⟨0, 0, by omega, rfl, rfl, fun j _ hj => by omega⟩
    case round =>
      obtain ⟨k, n, hk, rfl, rfl, hall⟩ := hrel
      have HA := Lib.hid hall
      clear hall
      by_cases hlt : k < ss.length
      · have hlt' : k < ts.length := by have := HN.out; omega
        obtain ⟨b, off, rfl, _, hbh, hcc⟩ := HC.out (by omega)
        obtain ⟨b', off', rfl, _, hbh', hcc'⟩ := HC'.out (by omega)
        have hck := hcc k hlt
        have hck' := hcc' k hlt'
        have i1 : (k : Int) < (ss.length : Int) := by omega
        have i2 : (k : Int) < (ts.length : Int) := by omega
        clear hcc hcc'
        by_cases he : ss[k] = ts[k]
        · have d1 : (ss[k].toList == ts[k].toList) = true := by rw [list_eqE, decide_eq_true he]
          have HE := Lib.hid he
          clear he
          go_wp2
          go_quiet (fail)
          go_wp2
          go_roundw
          case rel => exact ⟨k + 1, _, by omega, by go_num, rfl, fun j hj hjk => by
            by_cases e : j = k
            · subst e; exact HE.out
            · exact HA.out j hj (by omega)⟩
          case measure => simp [intOf]; omega
        · have d1 : (ss[k].toList == ts[k].toList) = false := by rw [list_eqE, decide_eq_false he]
          go_wp2
          go_quiet (fail)
          go_wp2
          go_ret
          exact ⟨ret_boolE (eqSs_f (fun e => he (by subst e; rfl))).symm, _, World.drewN_drewN _ _ _⟩
      · go_wp2
        go_ret
        exact ⟨ret_boolE (eqSs_t (List.ext_getElem HN.out fun j h1 h2 => HA.out j h1 (by omega))).symm, _, rfl⟩
  · have d0 : ((ss.length : Int) != (ts.length : Int)) = true := by rw [bne_iff_ne]; omega
    go_enter Try.func13, Try.ntmps13
    go_wp2
    go_ret
    exact ⟨ret_boolE (eqSs_f (fun e => hn (by rw [e]))).symm, 0, rfl⟩

end Go.Proofs.Ytlgedjpolmlciaa

/- Are two trees the same? The model: spec.l09Term. -/
namespace Go.Proofs.Ytlgedjpolmlciaa
open Go.RowKit

theorem term_ind9 {p : TermD → Prop} (h : ∀ t : TermD, (∀ i (h : i < t.kids.length), p t.kids[i]) → p t) (t : TermD) : p t :=
  h t (terms_ind (p := fun ts => ∀ i (h : i < ts.length), p ts[i]) (fun _ ih i hi => h _ (ih i hi)) t.kids)
def TopEqM (a b : TermD) : Prop := a.kind = b.kind ∧ a.num = b.num ∧ a.kids.length = b.kids.length
def SpL (a : TermD) : Prop := ∀ (b : TermD) (z : Bool) (u v : Value) (lo hi lo2 hi2 : Nat) (w : World), KM z w lo hi u a.kids → KM z w lo2 hi2 v b.kids → hi ≤ w.heap.size → hi2 ≤ w.heap.size →
  Calls Try.prog 12 #[tmV a u, tmV b v] w fun e w' => ∃ r, e = .returned (.bool r) ∧ (r = true ↔ a = b) ∧ Below w.heap.size w w'
theorem same_noM {a b : TermD} (h : ¬ TopEqM a b) : (false = true ↔ a = b) := ⟨(fun h => by cases h), fun e => absurd (show TopEqM a b by subst e; exact ⟨rfl, rfl, rfl⟩) h⟩

set_option maxRecDepth 100000 in
set_option maxHeartbeats 4000000 in
theorem specTerm9_of (a : TermD) (ih : ∀ i (h : i < a.kids.length), SpL a.kids[i]) : SpL a := by
  intro b z u v lo hi lo2 hi2 w hu hv hh hh2
  obtain ⟨A, c, U, rfl, hlc, hc, _, hcell, hsub⟩ := hu.parts
  obtain ⟨B, d, V, rfl, hld, hd, _, hcell', hsub'⟩ := hv.parts
  have HC := Lib.hid hcell
  have HC' := Lib.hid hcell'
  have HB := Lib.hid hsub
  have HB' := Lib.hid hsub'
  unfold maxLen at hc hd
  clear hcell hcell' hsub hsub' hv hu
  have hb0 := al2 w (.cells #[.int .i64 a.kind, .int .i64 a.num, .slice A a.kids.length c] 39) (.cells #[.int .i64 b.kind, .int .i64 b.num, .slice B b.kids.length d] 39)
  have RA := (Row.made w 39 #[.int .i64 a.kind, .int .i64 a.num, .slice A a.kids.length c]).alloc (.cells #[.int .i64 b.kind, .int .i64 b.num, .slice B b.kids.length d] 39)
  have RB := Row.made (w.alloc (.cells #[.int .i64 a.kind, .int .i64 a.num, .slice A a.kids.length c] 39)) 39 #[.int .i64 b.kind, .int .i64 b.num, .slice B b.kids.length d]
  have hsz : (w.alloc (.cells #[.int .i64 a.kind, .int .i64 a.num, .slice A a.kids.length c] 39)).heap.size = w.heap.size + 1 := by simp
  rw [hsz] at RB
  have hsz2 : ((w.alloc (.cells #[.int .i64 a.kind, .int .i64 a.num, .slice A a.kids.length c] 39)).alloc (.cells #[.int .i64 b.kind, .int .i64 b.num, .slice B b.kids.length d] 39)).heap.size = w.heap.size + 1 + 1 := by simp
  have HZ := Lib.hid hsz2
  have HB0 := Lib.hid hb0
  clear hsz hsz2 hb0
  unfold tmV
  by_cases h1 : a.kind = b.kind
  · have e1 : (a.kind != b.kind) = false := by rw [bne_eq_false_iff_eq]; exact h1
    have H1 := Lib.hid h1
    clear h1
    by_cases h2 : a.num = b.num
    · have e2 : (a.num != b.num) = false := by rw [bne_eq_false_iff_eq]; exact h2
      have H2 := Lib.hid h2
      clear h2
      by_cases h3 : a.kids.length = b.kids.length
      · have e3 : ((a.kids.length : Int) != (b.kids.length : Int)) = false := by rw [bne_eq_false_iff_eq]; omega
        have H3 := Lib.hid h3
        clear h3
        go_enter Try.func12, Try.ntmps12
        go_wp2
        generalize (w.alloc (.cells #[.int .i64 a.kind, .int .i64 a.num, .slice A a.kids.length c] 39)).alloc (.cells #[.int .i64 b.kind, .int .i64 b.num, .slice B b.kids.length d] 39) = w0 at RA RB HZ HB0 ⊢
        have z0 := HZ.out
        go_loopg [5] a.kids.length (fun gk i wr => ∃ k : Nat, k ≤ a.kids.length ∧ i = .int .i64 k ∧ Below w0.heap.size w0 wr ∧ (∀ j (h : j < a.kids.length) (h' : j < b.kids.length), j < k → a.kids[j] = b.kids[j]) ∧ gk = a.kids.length - k)
        case atStart => exact ⟨0, by omega, rfl, Below.refl _ _, (fun j _ _ hj => by omega), rfl⟩
        case round =>
          obtain ⟨k, hk, rfl, hbw, hall, rfl⟩ := hrel
          have HA := Lib.hid hall
          clear hall
          have hsw := hbw.size
          have R3 := RA.below hbw (by omega)
          have R4 := RB.below hbw (by omega)
          have c2 := R3.cell 2
          have c2' := R4.cell 2
          simp at c2 c2'
          have l1 := R3.lt
          have l2 := R4.lt
          have HBX := Lib.hid (HB0.out.trans (hbw.mono HB0.out.size))
          by_cases hlt : k < a.kids.length
          · have hlt' : k < b.kids.length := by have := H3.out; omega
            obtain ⟨b1, off, rfl, _, hbh, _, hcc⟩ := HC.out (by omega)
            obtain ⟨hc0, hc1, hc2⟩ := hcc k hlt
            obtain ⟨b2, off', rfl, _, hbh', _, hcc'⟩ := HC'.out (by omega)
            obtain ⟨hd0, hd1, hd2⟩ := hcc' k hlt'
            have B0 := HBX.out
            have k0 := (B0.cell (p := ⟨b1, off + k * 3, none⟩) (by show b1 < _; omega)).trans hc0
            have k1 := (B0.cell (p := ⟨b1, off + k * 3 + 1, none⟩) (by show b1 < _; omega)).trans hc1
            have k2 := (B0.cell (p := ⟨b1, off + k * 3 + 2, none⟩) (by show b1 < _; omega)).trans hc2
            have m0 := (B0.cell (p := ⟨b2, off' + k * 3, none⟩) (by show b2 < _; omega)).trans hd0
            have m1 := (B0.cell (p := ⟨b2, off' + k * 3 + 1, none⟩) (by show b2 < _; omega)).trans hd1
            have m2 := (B0.cell (p := ⟨b2, off' + k * 3 + 2, none⟩) (by show b2 < _; omega)).trans hd2
            have g1 := (HB.out k hlt).under B0 hh
            have g2 := (HB'.out k hlt').under B0 hh2
            have i1 : (k : Int) < (a.kids.length : Int) := by omega
            have i2 : (k : Int) < (b.kids.length : Int) := by omega
            have hb1q : b1 < wr.heap.size := by omega
            have hb2q : b2 < wr.heap.size := by omega
            have hbw2 : Below w0.heap.size w0 wr.drew := hbw.drew
            have g1d : KM z wr.drew lo hi (U k) a.kids[k].kids := g1.drewN 1
            have g2d : KM z wr.drew lo2 hi2 (V k) b.kids[k].kids := g2.drewN 1
            have hswd : w0.heap.size ≤ wr.drew.heap.size := hsw
            clear hcc hcc' hc0 hc1 hc2 hd0 hd1 hd2 B0 R3 R4 g1 g2
            go_wp2
            go_still_tail 10, (by kernel_rfl)
            change wpList _ _ _ _ _ wr.drew
            generalize wr.drew = w2 at hbw2 g1d g2d hswd ⊢
            go_wp2_with fail
            refine (ih k hlt b.kids[k] z (U k) (V k) lo hi lo2 hi2 _ g1d g2d (by omega) (by omega)).mono ?_
            rintro e w1 ⟨r, rfl, hr, hb3⟩
            cases r with
            | true =>
              have HE := Lib.hid (hr.1 rfl)
              clear hr
              go_wp2
              go_roundg (a.kids.length - (k + 1))
              case rel => exact ⟨k + 1, by omega, by go_num, hbw2.trans (hb3.mono hswd), (fun j hj hj' hjk => by
                by_cases e : j = k
                · subst e; exact HE.out
                · exact HA.out j hj hj' (by omega)), rfl⟩
              case measure => omega
            | false =>
              have HE : Hid (false = true ↔ a = b) := Lib.hid ⟨(fun h => by cases h), fun e => by
                subst e
                have := hr.2 rfl
                cases this⟩
              clear hr
              go_wp2
              go_ret
              exact ⟨false, rfl, HE.out, (HB0.out.trans (hbw2.mono HB0.out.size)).trans (hb3.mono (by omega))⟩
          · have HE : Hid (a = b) := Lib.hid (TermD.ext_of H1.out H2.out (List.ext_getElem H3.out fun i hi hi' => HA.out i hi hi' (by omega)))
            clear R3 R4
            go_wp2
            go_ret
            exact ⟨true, rfl, ⟨fun _ => HE.out, fun _ => rfl⟩, HBX.out⟩
      · have e3 : ((a.kids.length : Int) != (b.kids.length : Int)) = true := by rw [bne_iff_ne]; omega
        go_enter Try.func12, Try.ntmps12
        go_wp2
        go_ret
        exact ⟨false, rfl, same_noM (fun h => h3 h.2.2), HB0.out⟩
    · have e2 : (a.num != b.num) = true := by rw [bne_iff_ne]; exact h2
      go_enter Try.func12, Try.ntmps12
      go_wp2
      go_ret
      exact ⟨false, rfl, same_noM (fun h => h2 h.2.1), HB0.out⟩
  · have e1 : (a.kind != b.kind) = true := by rw [bne_iff_ne]; exact h1
    go_enter Try.func12, Try.ntmps12
    go_wp2
    go_ret
    exact ⟨false, rfl, same_noM (fun h => h1 h.1), HB0.out⟩
theorem specTerm9_any (a : TermD) : SpL a := term_ind9 specTerm9_of a
end Go.Proofs.Ytlgedjpolmlciaa
