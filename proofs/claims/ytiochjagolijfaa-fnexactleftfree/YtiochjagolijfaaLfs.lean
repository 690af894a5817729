/- Does no head come round to its own left end? spec.LeftFree. -/
import Derived.Test.YtiochjagolijfaaLfh
namespace Go.Proofs.Ytiochjagolijfaa
open Go.RowKit

open Classical in
/-- what LeftFree answers -/
noncomputable def freeB (ms : List MadeD) : Bool := decide (ms.length ≤ 400 ∧ FreeL ms)
open Classical in
theorem freeB_big {ms : List MadeD} (h : 400 < ms.length) : freeB ms = false := decide_eq_false fun q => by omega
open Classical in
theorem freeB_no {ms : List MadeD} (h : ¬ FreeL ms) : freeB ms = false := decide_eq_false fun q => h q.2
open Classical in
theorem freeB_yes {ms : List MadeD} (hl : ms.length ≤ 400) (h : FreeL ms) : freeB ms = true := decide_eq_true ⟨hl, h⟩
theorem below_drewN (B : Nat) {w w' : World} (h : Below B w w') (n : Nat) : Below B w (w'.drewN n) := ⟨h.os, h.tape, h.output, h.size, h.block⟩
/-- a round of the look: what is read of the list, what was come to -/
structure LsI (w1 wr : World) (ms : List MadeD) (h : ByteArray) (v5 : Value) (t : List ByteArray) (k n : Nat) : Prop where
  below : Below w1.heap.size w1 wr
  sts : Sts wr w1.heap.size v5 t
  bfs : BfI ms h t k n
theorem LsI.drewN {w1 wr : World} {ms : List MadeD} {h : ByteArray} {v5 : Value} {t : List ByteArray} {k n : Nat} (a : LsI w1 wr ms h v5 t k n) (q : Nat) : LsI w1 (wr.drewN q) ms h v5 t k n := ⟨below_drewN _ a.below q, a.sts, a.bfs⟩
theorem LsI.skip {w1 wr : World} {ms : List MadeD} {h : ByteArray} {v5 : Value} {t : List ByteArray} {k n : Nat} (a : LsI w1 wr ms h v5 t k n) (hn : n < ms.length) (hs : ∀ b, t[k]? = some ms[n].head → nxt ms[n] = some b → b ≠ h ∧ b ∈ t) : LsI w1 wr ms h v5 t k (n + 1) := ⟨a.below, a.sts, a.bfs.skip hn hs⟩

set_option maxRecDepth 100000 in
set_option maxHeartbeats 8000000 in
theorem specLeftFree_any (v : Value) (ms : List MadeD) (lo hi : Nat) (w : World) (h : DM true w lo hi v ms) (hhi : hi ≤ w.heap.size) :
    Calls Try.prog 14 #[v] w fun e w' => e = .returned (.bool (freeB ms)) ∧ Below w.heap.size w w' := by
  obtain ⟨s0, hs0, hx0, hx1, hx2⟩ := info_parts Try.infoStr
  have HV := Lib.hid h
  have HZ := Lib.hid h.heads
  obtain ⟨A, c, rfl, hlc, hc, hcell⟩ := h
  have HC := Lib.hid hcell
  unfold maxLen at hc
  clear hcell
  by_cases hbig : 400 < ms.length
  · have i1 : (400 : Int) < (ms.length : Int) := by omega
    have HE := Lib.hid (freeB_big hbig)
    go_enter Try.func14, Try.ntmps14
    go_wp2
    go_ret
    exact ⟨ret_bool HE.out.symm, Below.refl _ _⟩
  have i0 : ¬ (400 : Int) < (ms.length : Int) := by omega
  have hml : ms.length ≤ 400 := by omega
  go_enter Try.func14, Try.ntmps14
  go_wp2_with fail
  refine (l07Heads_any _ ms lo hi _ HV.out hhi (by omega)).mono ?_
  rintro e w1 ⟨u1, hs, rfl, S1, hsm, hsz, hsl, b1⟩
  have z1 := b1.size
  have HB1 := Lib.hid b1
  have HS1 := Lib.hid S1
  have HSM := Lib.hid hsm
  have HSZ := Lib.hid hsz
  obtain ⟨Bh, dh, rfl⟩ := S1.shape
  clear b1 S1 hsm hsz
  go_wp2
  go_loopg [4, 5, 6, 7] hs.length (fun gk v4 _ _ _ wr => ∃ i : Nat, v4 = .int .i64 i ∧ i ≤ hs.length ∧ Below w1.heap.size w1 wr ∧ (∀ q (hq : q < hs.length), q < i → ¬ LdP ms hs[q] hs[q]) ∧ gk = hs.length - i)
  case atStart => exact ⟨0, rfl, by omega, Below.refl _ _, (fun q _ h => by omega), rfl⟩
  case round =>
    obtain ⟨i, rfl, hi', hbw, hall, rfl⟩ := hrel
    have hzw := hbw.size
    by_cases hil : i < hs.length
    · obtain ⟨g1, c1, e1, hg1, hg1b, hcl⟩ := sts_in HS1.out (List.getElem?_eq_getElem hil)
      injection e1 with e1 _ e2
      subst e1 e2
      have k0 := (hbw.cell (p := ⟨g1, i, none⟩) (by show g1 < _; omega)).trans hcl
      have HK0 : Hid (w1.cell? ⟨g1, i, none⟩ = some (.string hs[i])) := Lib.hid hcl
      have i1 : (i : Int) < (hs.length : Int) := by omega
      have HALL := Lib.hid hall
      have HI0 : Hid (LsI w1 (wr.alloc (.cells #[.string hs[i]] 9)) ms hs[i] (.slice (some ⟨wr.heap.size, 0, none⟩) 1 1) [hs[i]] 0 0) := Lib.hid ⟨hbw.trans ((al1 wr _).mono hzw), World.ownsRow_lit wr #[.string hs[i]] 1 hzw (by unfold maxLen; omega) rfl, BfI.start ms _⟩
      have HSI := Lib.hid (HSZ.out _ (List.getElem_mem hil))
      generalize hhd : hs[i] = hd at HK0 HI0 HSI k0
      have HHD := Lib.hid hhd
      clear hcl hbw hall hhd
      go_wp2
      clear k0
      go_loopg [5, 6, 7] (ms.length + 1) (fun gk v5 v6 _ wr => ∃ (k : Nat) (t : List ByteArray), v6 = .int .i64 k ∧ k ≤ t.length ∧ LsI w1 wr ms hd v5 t k 0 ∧ gk = ms.length + 1 - k)
      case atStart => exact ⟨0, _, rfl, by omega, HI0.out, rfl⟩
      case round =>
        clear HI0
        obtain ⟨k, t, rfl, hkt, hI, rfl⟩ := hrel
        have htl := hI.bfs.len
        obtain ⟨Bt, dt, rfl⟩ := hI.sts.shape
        by_cases hk : k < t.length
        · have HI := Lib.hid hI
          have i2 : (k : Int) < (t.length : Int) := by omega
          clear hI
          go_wp2
          go_loopg [5, 7] ms.length (fun gk v5 v7 wr => ∃ (n : Nat) (t2 : List ByteArray), v7 = .int .i64 n ∧ n ≤ ms.length ∧ k < t2.length ∧ LsI w1 wr ms hd v5 t2 k n ∧ gk = ms.length - n)
          case atStart => exact ⟨0, t, rfl, by omega, hk, HI.out, rfl⟩
          case round =>
            clear HI hk hkt
            obtain ⟨n, t2, rfl, hn, hk2, hI, rfl⟩ := hrel
            have hzr := hI.below.size
            have htl2 := hI.bfs.len
            by_cases hnm : n < ms.length
            · obtain ⟨b, off, rfl, _, hbh, _, hcc⟩ := HC.out (by omega)
              obtain ⟨hhs, _, hc0, u, x, hc1, _, _, _, hst, _⟩ := hcc n hnm
              have m0 := (hI.below.cell (p := ⟨b, off + n * 5, none⟩) (by show b < _; omega)).trans ((HB1.out.cell (p := ⟨b, off + n * 5, none⟩) (by show b < _; omega)).trans hc0)
              have m1 := (hI.below.cell (p := ⟨b, off + n * 5 + 1, none⟩) (by show b < _; omega)).trans ((HB1.out.cell (p := ⟨b, off + n * 5 + 1, none⟩) (by show b < _; omega)).trans hc1)
              have m2 := (hI.below.cell (p := ⟨g1, i, none⟩) (by show g1 < _; omega)).trans HK0.out
              obtain ⟨gt, ct, et, hgt, hgtb, hct⟩ := sts_in hI.sts (List.getElem?_eq_getElem hk2)
              subst et
              obtain ⟨Au, cu, rfl, _, _, hbz, hbc⟩ := hst
              have i3 : (n : Int) < (ms.length : Int) := by omega
              have i4 : (k : Int) < (t2.length : Int) := by omega
              have HBC := Lib.hid hbc
              have HBZ := Lib.hid hbz
              have HI := Lib.hid hI
              have hTK : t2[k]? = some t2[k] := List.getElem?_eq_getElem hk2
              generalize t2[k] = tk at hct hTK
              have HTK := Lib.hid hTK
              clear hcc hc0 hc1 hbc hbz hI hTK
              have hbw : b < wr.heap.size := by omega
              have hg1w : g1 < wr.heap.size := by omega
              by_cases heq : ms[n].head = tk
              · have deq : (ms[n].head.toList == tk.toList) = true := by rw [eq_strs, decide_eq_true heq]
                have HEQ := Lib.hid heq
                clear heq
                by_cases hb0 : ms[n].body.length = 0
                · have d2 : ((ms[n].body.length : Int) == 0) = true := by rw [hb0]; rfl
                  have HNX := Lib.hid (nxt_nil hb0)
                  clear hb0
                  go_wp2
                  go_quiet (fail)
                  go_wp2
                  go_roundg (ms.length - (n + 1))
                  case rel => exact ⟨n + 1, t2, by go_num, by omega, hk2, (HI.out.skip hnm (fun b _ e2 => by rw [HNX.out] at e2; cases e2)).drewN _, rfl⟩
                  case measure => omega
                · have d2 : ((ms[n].body.length : Int) == 0) = false := by rw [beq_eq_false_iff_ne]; omega
                  have hbp : 0 < ms[n].body.length := by omega
                  obtain ⟨b2, off2, rfl, _, hb2h, hcc2⟩ := HBC.out hbp
                  have m3 := (HI.out.below.cell (p := ⟨b2, off2, none⟩) (by show b2 < _; omega)).trans ((HB1.out.cell (p := ⟨b2, off2, none⟩) (by show b2 < _; omega)).trans (hcc2 0 hbp))
                  have i5 : (0 : Int) < (ms[n].body.length : Int) := by omega
                  have hb2w : b2 < wr.heap.size := by omega
                  have hnx := nxt_at hbp
                  have hsz0 := HBZ.out _ (List.getElem_mem hbp)
                  generalize ms[n].body[0] = s at m3 hnx hsz0
                  have cT : ∀ q, Calls Try.prog 39 #[.string s] (wr.drewN q) fun e w' => e = .returned (.bool (tokB s)) ∧ w' = wr.drewN q := fun q => (specIsToken_any s (wr.drewN q) hsz0).mono fun _ _ ⟨a, b⟩ => ⟨a, b.symm⟩
                  clear hcc2
                  cases htk : tokB s with
                  | true =>
                    rw [htk] at cT
                    have HNX : Hid (nxt ms[n] = none) := Lib.hid (by rw [hnx, htk]; rfl)
                    clear htk hnx
                    go_wp2
                    go_quiet (first | (go_at_call 39; refine Calls.quiet_of_same (cT _)))
                    go_wp2
                    go_roundg (ms.length - (n + 1))
                    case rel => exact ⟨n + 1, t2, by go_num, by omega, hk2, (HI.out.skip hnm (fun b _ e2 => by rw [HNX.out] at e2; cases e2)).drewN _, rfl⟩
                    case measure => omega
                  | false =>
                    rw [htk] at cT
                    have HNX : Hid (nxt ms[n] = some s) := Lib.hid (by rw [hnx, htk]; rfl)
                    clear htk hnx
                    go_wp2
                    go_quiet (first | (go_at_call 39; refine Calls.quiet_of_same (cT _)))
                    have HIQ := Lib.hid (HI.out.drewN nq)
                    have q1 : (wr.drewN nq).cell? ⟨b, off + n * 5 + 1, none⟩ = some (.slice (some ⟨b2, off2, none⟩) ms[n].body.length cu) := m1
                    have q2 : (wr.drewN nq).cell? ⟨g1, i, none⟩ = some (.string hd) := m2
                    have q3 : (wr.drewN nq).cell? ⟨b2, off2, none⟩ = some (.string s) := m3
                    have z1 : b < (wr.drewN nq).heap.size := hbw
                    have z2 : b2 < (wr.drewN nq).heap.size := hb2w
                    have z3 : g1 < (wr.drewN nq).heap.size := hg1w
                    have z4 : w1.heap.size ≤ (wr.drewN nq).heap.size := hzr
                    clear cT HI m0 m1 m2 m3 hct hgt hgtb hbw hb2w hg1w hzr deq d2
                    generalize wr.drewN nq = wq at HIQ q1 q2 q3 z1 z2 z3 z4 ⊢
                    have HSZ2 : Hid (∀ x ∈ t2, x.size ≤ maxLen) := Lib.hid (fun x hx => by
                      rcases HIQ.out.bfs.sub x hx with rfl | ⟨m, hm, e⟩
                      · exact HSI.out
                      · obtain ⟨mh, mb, mt⟩ := m
                        cases mb with
                        | nil => cases e
                        | cons y l =>
                          have : (if tokB y = true then none else some y) = some x := e
                          split at this
                          · cases this
                          · injection this with this
                            subst this
                            exact (HZ.out _ hm).2 y List.mem_cons_self)
                    by_cases hsh : s = hd
                    · have deq : (s.toList == hd.toList) = true := by rw [eq_strs, decide_eq_true hsh]
                      have HE : Hid (freeB ms = false) := Lib.hid (freeB_no (HIQ.out.bfs.found hnm (by rw [HEQ.out]; exact HTK.out) (hsh ▸ HNX.out)))
                      have HFB : Hid (Below w.heap.size w wq) := Lib.hid (HB1.out.trans (HIQ.out.below.mono (by assumption)))
                      clear hsh
                      go_wp2
                      go_quiet (fail)
                      go_wp2
                      go_ret
                      exact ⟨ret_bool HE.out.symm, below_drewN _ HFB.out _⟩
                    · have deq : (s.toList == hd.toList) = false := by rw [eq_strs, decide_eq_false hsh]
                      have HNE := Lib.hid hsh
                      clear hsh
                      go_wp2
                      go_quiet (fail)
                      have HIR := Lib.hid (HIQ.out.drewN nq)
                      have r1 : (wq.drewN nq).cell? ⟨b, off + n * 5 + 1, none⟩ = some (.slice (some ⟨b2, off2, none⟩) ms[n].body.length cu) := q1
                      have r3 : (wq.drewN nq).cell? ⟨b2, off2, none⟩ = some (.string s) := q3
                      have y1 : b < (wq.drewN nq).heap.size := z1
                      have y2 : b2 < (wq.drewN nq).heap.size := z2
                      have y4 : w1.heap.size ≤ (wq.drewN nq).heap.size := z4
                      clear HIQ q1 q2 q3 z1 z2 z3 z4 deq
                      generalize wq.drewN nq = wp at HIR r1 r3 y1 y2 y4 ⊢
                      have HSR := Lib.hid (HIR.out.sts.strs HSZ2.out)
                      cases hin : inB t2 s with
                      | true =>
                        have HIN := Lib.hid hin
                        clear hin
                        go_wp2_with fail
                        refine (specIn_any _ t2 s _ _ _ HSR.out).mono ?_
                        rintro e w9 ⟨rfl, rfl⟩
                        rw [HIN.out]
                        go_wp2
                        go_roundg (ms.length - (n + 1))
                        case rel => exact ⟨n + 1, t2, by go_num, by omega, hk2, HIR.out.skip hnm (fun b _ e2 => by rw [HNX.out] at e2; injection e2 with e2; subst e2; exact ⟨HNE.out, (inB_iff _ _).1 HIN.out⟩), rfl⟩
                        case measure => omega
                      | false =>
                        have HIN := Lib.hid hin
                        clear hin
                        go_wp2_with fail
                        refine (specIn_any _ t2 s _ _ _ HSR.out).mono ?_
                        rintro e w9 ⟨rfl, rfl⟩
                        rw [HIN.out]
                        go_wp2_with (at_builtin; refine wpList_append_lies _ rfl _ _ 63 rfl w1.heap.size 9 s0 _ 1 16 Try.underlying63 hs0 hx0 hx1 hx2 rfl (by decide) (.slice (some ⟨gt, 0, none⟩) t2.length ct) t2.length (t2.map Value.string) rfl (World.ownsRow.alloc HIR.out.sts _) ⟨wp.heap.size, 0, none⟩ 1 1 [.string s] rfl rfl (cell_one_new _ _ _) (one_str _) (by omega) (by unfold maxLen; omega) (by omega) (by simp; omega) (wp.heap.size + 1) (by simp) ?_)
                        intro gg capg w6 hown6 hg6 hat6 hlt6
                        have FIN : Hid (LsI w1 w6 ms hd (.slice (some ⟨gg, 0, none⟩) (t2.length + 1) capg) (t2 ++ [s]) k (n + 1)) := Lib.hid ⟨Tx.below_grown (HIR.out.below.trans ((al1 wp _).mono y4)) (World.ownsRow.alloc HIR.out.sts _) hg6 (by simp; omega) (Nat.le_refl _), Sts.one _ hown6, HIR.out.bfs.push hk2 hnm (by rw [HEQ.out]; exact HTK.out) HNX.out HNE.out HIN.out⟩
                        clear hown6 hg6 hat6 hlt6
                        go_wp2
                        go_roundg (ms.length - (n + 1))
                        case rel => exact ⟨n + 1, _, by go_num, by omega, by rw [List.length_append, List.length_singleton]; omega, FIN.out, rfl⟩
                        case measure => omega
              · have deq : (ms[n].head.toList == tk.toList) = false := by rw [eq_strs, decide_eq_false heq]
                have HEQ := Lib.hid heq
                clear heq
                go_wp2
                go_quiet (fail)
                go_wp2
                go_roundg (ms.length - (n + 1))
                case rel => exact ⟨n + 1, t2, by go_num, by omega, hk2, (HI.out.skip hnm (fun b e1 _ => by rw [HTK.out] at e1; injection e1 with e1; exact absurd e1.symm HEQ.out)).drewN _, rfl⟩
                case measure => omega
            · obtain rfl : n = ms.length := by omega
              obtain ⟨Bt2, dt2, rfl⟩ := hI.sts.shape
              have HI := Lib.hid hI
              clear hI
              go_wp2
              go_roundg (ms.length + 1 - (k + 1))
              case rel => exact ⟨k + 1, t2, by go_num, by omega, ⟨HI.out.below, HI.out.sts, HI.out.bfs.turn⟩, rfl⟩
              case measure => omega
        · have HI := Lib.hid hI
          clear hI
          go_wp2
          go_roundg (hs.length - (i + 1))
          case rel => exact ⟨i + 1, by go_num, by omega, HI.out.below, (fun q hq hqi => by
              by_cases e : q = i
              · subst e; rw [HHD.out]; exact HI.out.bfs.none (by omega)
              · exact HALL.out q hq (by omega)), rfl⟩
          case measure => omega
    · have HE : Hid (freeB ms = true) := Lib.hid (freeB_yes hml fun h hh => by
        obtain ⟨b, ⟨m, hm, e1, _⟩, _⟩ := hh.first
        obtain ⟨q, hq, e2⟩ := List.getElem_of_mem (HSM.out m hm)
        refine hall q hq (by omega) ?_
        rw [e2, e1]
        exact hh)
      have FIN := Lib.hid (HB1.out.trans (hbw.mono z1))
      clear hall hbw
      go_wp2
      go_ret
      exact ⟨ret_bool HE.out.symm, FIN.out⟩
end Go.Proofs.Ytiochjagolijfaa
