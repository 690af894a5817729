import Derived.Test.YtcgmnpfeiiomgaaJSortS
import Derived.Deep.AppendLies
import Derived.Test.YtcgmnpfeiiomgaaJSplit
import Derived.Test.YtcgmnpfeiiomgaaJLeftP
import Derived.BigQuiet
/- Two lists of texts of the call's own, in blocks apart from each other. -/
namespace Go.Proofs.Ytcgmnpfeiiomgaa
open Go.RowKit

structure Two (w : World) (base : Nat) (x y : Value) (xs ys : List ByteArray) : Prop where
  rx : Sts w base x xs
  ry : Sts w base y ys
  apart : ∀ g, x.ownBlock = some g → y.ownBlock ≠ some g
theorem Two.swap {w : World} {base : Nat} {x y : Value} {xs ys : List ByteArray} (h : Two w base x y xs ys) : Two w base y x ys xs := ⟨h.ry, h.rx, fun g h1 h2 => h.apart g h2 h1⟩
theorem Two.below {w w' : World} {base : Nat} {x y : Value} {xs ys : List ByteArray} (h : Two w base x y xs ys) (k : Below w.heap.size w w') : Two w' base x y xs ys := ⟨h.rx.below k, h.ry.below k, h.apart⟩
theorem Sts.stay {w w' : World} {base : Nat} {v : Value} {ss : List ByteArray} (h : Sts w base v ss) (e : ∀ g, v.ownBlock = some g → w'.heap[g]? = w.heap[g]?) : Sts w' base v ss := by
  refine ⟨h.1, ?_⟩
  rcases h.2 with a | ⟨g, cap, cur, rfl, hb, hh, r⟩
  · exact .inl a
  · exact .inr ⟨g, cap, cur, rfl, hb, (e g rfl).trans hh, r⟩
theorem Two.growX {w w' : World} {base : Nat} {x y : Value} {xs ys : List ByteArray} {o : Obj} {s : ByteArray} {g cap : Nat} (h : Two w base x y xs ys)
    (hown : w'.ownsRow base 9 1 (.slice (some ⟨g, 0, none⟩) (xs.length + 1) cap) (xs.length + 1) (xs.map Value.string ++ [.string s])) (hg : (w.alloc o).grownBy w' x.ownBlock) (hat : x.ownBlock = some g ∨ g = w.heap.size + 1) :
    Two w' base (.slice (some ⟨g, 0, none⟩) (xs.length + 1) cap) y (xs ++ [s]) ys := by
  refine ⟨Sts.one _ hown, h.ry.stay fun k hk => ?_, fun k hk hy => ?_⟩
  · have hl := (h.ry.lt k hk).2
    rw [hg.block k (by simp; omega) (fun e => h.apart k e.symm hk), Below.heap_alloc _ _ _ hl]
  · have hk' : g = k := by simpa [Value.ownBlock] using hk
    subst hk'
    have hl := (h.ry.lt _ hy).2
    rcases hat with hat | hat
    · exact h.apart _ hat hy
    · omega
theorem Two.growY {w w' : World} {base : Nat} {x y : Value} {xs ys : List ByteArray} {o : Obj} {s : ByteArray} {g cap : Nat} (h : Two w base x y xs ys)
    (hown : w'.ownsRow base 9 1 (.slice (some ⟨g, 0, none⟩) (ys.length + 1) cap) (ys.length + 1) (ys.map Value.string ++ [.string s])) (hg : (w.alloc o).grownBy w' y.ownBlock) (hat : y.ownBlock = some g ∨ g = w.heap.size + 1) :
    Two w' base x (.slice (some ⟨g, 0, none⟩) (ys.length + 1) cap) xs (ys ++ [s]) := (h.swap.growX hown hg hat).swap
/-- what stands ahead of the lists, or is of another type, is as it was -/
theorem Two.belowX {w0 w w' : World} {base : Nat} {x y : Value} {xs ys : List ByteArray} {o : Obj} (h : Two w base x y xs ys) (b : Below base w0 w) (hb : base ≤ w.heap.size) (hg : (w.alloc o).grownBy w' x.ownBlock) : Below base w0 w' :=
  Tx.below_grown (b.trans ((al1 w o).mono hb)) (World.ownsRow.alloc h.rx o) hg (by simp; omega) (Nat.le_refl _)
theorem Two.belowY {w0 w w' : World} {base : Nat} {x y : Value} {xs ys : List ByteArray} {o : Obj} (h : Two w base x y xs ys) (b : Below base w0 w) (hb : base ≤ w.heap.size) (hg : (w.alloc o).grownBy w' y.ownBlock) : Below base w0 w' := h.swap.belowX b hb hg
theorem Two.rowX {w w' : World} {base p : Nat} {x y : Value} {xs ys : List ByteArray} {o : Obj} {t : TypeId} {cur : Array Value} (h : Two w base x y xs ys) (r : Row w p t cur) (ht : t ≠ 9) (hg : (w.alloc o).grownBy w' x.ownBlock) : Row w' p t cur :=
  Tx.row_grown (r.alloc o) (World.ownsRow.alloc h.rx o) ht hg
theorem Two.rowY {w w' : World} {base p : Nat} {x y : Value} {xs ys : List ByteArray} {o : Obj} {t : TypeId} {cur : Array Value} (h : Two w base x y xs ys) (r : Row w p t cur) (ht : t ≠ 9) (hg : (w.alloc o).grownBy w' y.ownBlock) : Row w' p t cur := h.swap.rowX r ht hg
end Go.Proofs.Ytcgmnpfeiiomgaa

/- The walk of the model's LeftOf. -/
namespace Go.Proofs.Ytcgmnpfeiiomgaa
open Go.RowKit

theorem Sts.at {w : World} {base : Nat} {v : Value} {ss : List ByteArray} (h : Sts w base v ss) {i : Nat} {t : ByteArray} (hi : ss[i]? = some t) : ∃ g cap, v = .slice (some ⟨g, 0, none⟩) ss.length cap ∧ g < w.heap.size ∧ base ≤ g ∧ w.cell? ⟨g, i, none⟩ = some (.string t) := by
  have hlt : i < ss.length := by
    rcases Nat.lt_or_ge i ss.length with h1 | h1
    · exact h1
    · rw [List.getElem?_eq_none h1] at hi; cases hi
  rcases h.2 with ⟨_, h0⟩ | ⟨g, cap, cur, rfl, hb, hh, hc, hm, hs, ht⟩
  · omega
  · have hr : Row w g 9 cur := hh
    refine ⟨g, cap, rfl, hr.lt, hb, ?_⟩
    have h1 : (cur.toList.take (ss.length * 1))[i]? = some (.string t) := by rw [ht, List.getElem?_map, hi]; rfl
    rw [List.getElem?_take_of_lt (by omega)] at h1
    rw [hr.cell, ← Array.getElem?_toList]
    exact h1

theorem Sts.lit (w : World) {base : Nat} (hb : base ≤ w.heap.size) (s : ByteArray) : Sts (w.alloc (.cells #[.string s] 9)) base (.slice (some ⟨w.heap.size, 0, none⟩) 1 1) [s] := World.ownsRow_lit w #[.string s] 1 hb (by unfold maxLen; omega) rfl
theorem Two.drewN {w : World} {base n : Nat} {x y : Value} {xs ys : List ByteArray} (h : Two w base x y xs ys) : Two (w.drewN n) base x y xs ys := ⟨h.rx, h.ry, h.apart⟩
theorem list_eqU (a b : ByteArray) : (a.toList == b.toList) = decide (a = b) := by
  rw [Bool.eq_iff_iff]; simp only [beq_iff_eq, decide_eq_true_eq]
  constructor
  · intro h
    apply ByteArray.ext
    apply Array.ext'
    simpa [ByteArray.toList_eq] using h
  · rintro rfl; rfl
theorem brk {rs : List RuleD} {ins body : List ByteArray} {m : Nat} (hm : m < body.length) (hin : ∀ q (hq : q < body.length), q < m → Com false rs body[q] ∧ (headB body[q] = true → body[q] ∈ ins)) (hself : headB body[m] = true → body[m] ∈ ins) (hn : ¬ Com false rs body[m]) :
    ∀ s, tkLeft (Com false rs) body s → headB s = true → s ∈ ins := by
  rintro s ⟨q, hq, rfl, hall⟩ hh
  rcases Nat.lt_trichotomy q m with h | h | h
  · exact (hin q hq h).2 hh
  · subst h; exact hself hh
  · exact absurd (hall m h) hn
theorem brk_all {rs : List RuleD} {ins body : List ByteArray} (hin : ∀ q (hq : q < body.length), q < body.length → Com false rs body[q] ∧ (headB body[q] = true → body[q] ∈ ins)) :
    ∀ s, tkLeft (Com false rs) body s → headB s = true → s ∈ ins := by
  rintro s ⟨q, hq, rfl, _⟩ hh
  exact (hin q hq hq).2 hh

set_option maxRecDepth 100000 in
set_option maxHeartbeats 8000000 in
theorem specLeftOf_any (rs : List RuleD) (v : Value) (hd : ByteArray) (hhd : hd.size ≤ maxLen) (lo hi : Nat) (w : World) (h : Rules w lo hi v rs) (hh : hi ≤ w.heap.size) :
    Calls Try.prog 45 #[.agg #[v], .string hd] w (MadeS w (leftOf rs hd)) := by
  obtain ⟨i0, hi0, hz0, hz1, hz2⟩ := info_parts Try.infoStr
  have HV := Lib.hid h
  obtain ⟨A, c, rfl, hlc, hc, hcell⟩ := h
  unfold maxLen at hc hhd
  have HC := Lib.hid hcell
  clear hcell
  have hb := al1 w (.cells #[.slice A rs.length c] 25)
  have R0 := Row.made w 25 #[.slice A rs.length c]
  cases hq : gramB rs
  · rw [leftOf_f hq]
    have HQ := Lib.hid hq
    clear hq
    go_enter Try.func45, Try.ntmps45
    go_wp2_with fail
    refine (specGramRight_any rs _ lo hi _ (HV.out.below hb hh) (by simp; omega)).mono ?_
    rintro e w1 ⟨rfl, b1⟩
    rw [HQ.out]
    go_wp2
    go_ret
    exact ⟨_, 0, rfl, ⟨_, 0, rfl, Nat.le_refl _, by unfold maxLen; omega, by simp, fun h => by simp at h⟩, fun hn => absurd rfl hn, (hb.trans (b1.mono (by simp))).trans ((al1 w1 _).mono (hb.trans (b1.mono (by simp))).size)⟩
  by_cases hbig : 8000 < hd.size
  · rw [leftOf_big hbig]
    have HQ := Lib.hid hq
    clear hq
    have dg : decide ((hd.size : Int) > 8000) = true := decide_eq_true (by omega)
    go_enter Try.func45, Try.ntmps45
    go_wp2_with fail
    refine (specGramRight_any rs _ lo hi _ (HV.out.below hb hh) (by simp; omega)).mono ?_
    rintro e w1 ⟨rfl, b1⟩
    rw [HQ.out]
    go_wp2
    go_ret
    exact ⟨_, 0, rfl, ⟨_, 0, rfl, Nat.le_refl _, by unfold maxLen; omega, by simp, fun h => by simp at h⟩, fun hn => absurd rfl hn, (hb.trans (b1.mono (by simp))).trans ((al1 w1 _).mono (hb.trans (b1.mono (by simp))).size)⟩
  have HQ := Lib.hid hq
  have RT := Lib.hid (Rt.of hq)
  have hl20 := RT.out.few
  have dg : decide ((hd.size : Int) > 8000) = false := decide_eq_false (by omega)
  clear hq
  go_enter Try.func45, Try.ntmps45
  go_wp2_with fail
  refine (specGramRight_any rs _ lo hi _ (HV.out.below hb hh) (by simp; omega)).mono ?_
  rintro e w1 ⟨rfl, b1⟩
  rw [HQ.out]
  have R1 := R0.below b1 (by simp)
  have c1 := R1.cell 0
  simp at c1
  have hb1 := hb.trans (b1.mono (by simp))
  have z1 := hb1.size
  have hl1 := R1.lt
  clear b1 hb R0
  go_wp2_with fail
  refine (specFix_any rs _ false lo hi _ (HV.out.below hb1 hh) (by omega) HQ.out).mono ?_
  rintro e w2 ⟨u, g, rfl, ho, hg, b2⟩
  have HNU := Lib.hid (ho.strs (lo := 0) (hi := w2.heap.size) fun hn => by have := hg hn; omega)
  obtain ⟨NA, nc, rfl, -⟩ := ho
  have R2 := R1.below b2 hl1
  have hb2 := hb1.trans (b2.mono z1)
  have z2 := hb2.size
  have hl2 := R2.lt
  have HR2 := Lib.hid R2
  have HB2 := Lib.hid hb2
  clear hg R1 R2 b2 hb1 c1 hb2
  go_wp2
  go_loopw [6, 7, 8, 9, 10, 11] (fun x y i _ _ _ wr => ∃ (j : Nat) (ins : List ByteArray), i = .int .i64 (j : Int) ∧ OldL rs hd j ins ∧ Two wr w2.heap.size x y ins (hd :: ins) ∧ Below w2.heap.size w2 wr) (fun _ _ i _ _ _ _ => 103 - (intOf i).toNat)
  case atStart =>
    have t1 := Sts.nil w2 (base := w2.heap.size) (Nat.le_refl _)
    have t2 : Sts ((w2.alloc (.cells #[] 9)).alloc (.cells #[.string hd] 9)) w2.heap.size (.slice (some ⟨w2.heap.size + 1, 0, none⟩) 1 1) [hd] := by
      have := Sts.lit (w2.alloc (.cells #[] 9)) (base := w2.heap.size) (by simp) hd
      simpa using this
    exact ⟨0, [], rfl, OldL.start _ _, ⟨t1.below (al1 _ _), t2, fun g h1 h2 => by simp [Value.ownBlock] at h1 h2; omega⟩, al2 _ _ _⟩
  case round =>
    obtain ⟨i, ins0, rfl, hold, htwo, hbw⟩ := hrel
    have hsw := hbw.size
    rename World => wo
    have hlen := hold.way.len RT.out
    have hfew := hold.few
    have HOLD := Lib.hid hold
    have HTWO := Lib.hid htwo
    obtain ⟨Bx, dx, rfl⟩ := htwo.rx.shape
    obtain ⟨By, dy, rfl⟩ : ∃ B d, _ = Value.slice B (ins0.length + 1) d := htwo.ry.shape
    clear hold htwo
    by_cases hlt : i < ins0.length + 1
    · obtain ⟨t, ht⟩ : ∃ t, (hd :: ins0)[i]? = some t := ⟨(hd :: ins0)[i]'(by simpa using hlt), List.getElem?_eq_getElem _⟩
      have HN0 := Lib.hid (HOLD.out.now ht)
      have HBW := Lib.hid hbw
      have i9 : decide ((i : Int) < (ins0.length : Int) + 1) = true := decide_eq_true (by omega)
      clear ht hbw
      go_wp2
      go_loopw [6, 7, 9, 10, 11] (fun x y k _ _ wr => ∃ (j : Nat) (ins : List ByteArray), k = .int .i64 (j : Int) ∧ j ≤ rs.length ∧ NowL rs hd t i j ins ∧ Two wr w2.heap.size x y ins (hd :: ins) ∧ Below w2.heap.size w2 wr) (fun _ _ k _ _ _ => rs.length - (intOf k).toNat)
      case atStart => exact ⟨0, ins0, rfl, by omega, HN0.out, HTWO.out, HBW.out⟩
      case round =>
        obtain ⟨j, ins1, rfl, hj, hnow, htwo, hbw⟩ := hrel
        have hsw := hbw.size
        rename World => wm
        have hlen1 := hnow.way.len RT.out
        have hlt1 := hnow.lt
        have HNOW := Lib.hid hnow
        have HTW1 := Lib.hid htwo
        obtain ⟨Bx1, dx1, rfl⟩ := htwo.rx.shape
        obtain ⟨By1, dy1, rfl⟩ : ∃ B d, _ = Value.slice B (ins1.length + 1) d := htwo.ry.shape
        have hbW := HB2.out.trans (hbw.mono z2)
        have cG := (HR2.out.below hbw hl2).cell 0
        simp at cG
        clear hnow htwo
        by_cases hjl : j < rs.length
        · obtain ⟨b, off, rfl, _, hbh, hcc⟩ := HC.out (by omega)
          obtain ⟨hhs, d0, u, d1, hst⟩ := hcc j hjl
          have d0' := (hbW.cell (p := ⟨b, off + j * 2, none⟩) (by show b < _; omega)).trans d0
          have d1' := (hbW.cell (p := ⟨b, off + j * 2 + 1, none⟩) (by show b < _; omega)).trans d1
          clear d0 d1 hcc
          obtain ⟨A', c', rfl, hlc', hc', hsz', hcell'⟩ := hst
          unfold maxLen at hc'
          have HCB := Lib.hid hcell'
          have HZB := Lib.hid hsz'
          have hbl5 := RT.out.len j hjl
          have ha := al1 wm (.cells #[.string rs[j].head, .slice A' rs[j].body.length c'] 47)
          have HT4 := Lib.hid (HTW1.out.below ha)
          have HB4 := Lib.hid (hbw.trans (ha.mono hsw))
          have HBM := Lib.hid hbw
          clear hcell' hsz' hbw ha
          go_wp2
          go_loopw [6, 7, 11] (fun x y n wr => ∃ (m : Nat) (ins : List ByteArray), n = .int .i64 (m : Int) ∧ m ≤ rs[j].body.length ∧ NowL rs hd t i j ins ∧ (∀ q (hq : q < rs[j].body.length), q < m → Com false rs rs[j].body[q] ∧ (headB rs[j].body[q] = true → rs[j].body[q] ∈ ins)) ∧ Two wr w2.heap.size x y ins (hd :: ins) ∧ Row wr wm.heap.size 47 #[.string rs[j].head, .slice A' rs[j].body.length c'] ∧ Below w2.heap.size w2 wr) (fun _ _ n _ => rs[j].body.length - (intOf n).toNat)
          case atStart => exact ⟨0, ins1, rfl, by omega, HNOW.out, fun q _ hq => by omega, HT4.out, Row.made _ _ _, HB4.out⟩
          case round =>
            obtain ⟨m, ins, rfl, hm, hnow, hin, htwo, hrr, hbr⟩ := hrel
            have hlen2 := hnow.way.len RT.out
            have hlt2 := hnow.lt
            have HN2 := Lib.hid hnow
            have HIN := Lib.hid hin
            have HT2 := Lib.hid htwo
            have HRR := Lib.hid hrr
            have hrl := hrr.lt
            have r0 := hrr.cell 0
            have r1 := hrr.cell 1
            simp at r0 r1
            obtain ⟨Bx2, dx2, rfl⟩ := htwo.rx.shape
            obtain ⟨gy, cy, hy, hgy, hgb, hcy⟩ : ∃ g cap, _ = Value.slice (some ⟨g, 0, none⟩) (ins.length + 1) cap ∧ g < _ ∧ _ ≤ g ∧ _ := htwo.ry.at hnow.cur
            subst hy
            have hszr := hbr.size
            clear hnow hin htwo hrr
            by_cases hml : m < rs[j].body.length
            · have i1 : decide ((m : Int) < (rs[j].body.length : Int)) = true := decide_eq_true (by omega)
              by_cases he : rs[j].head = t
              · have d2 : (rs[j].head.toList == t.toList) = true := by rw [he]; simp
                obtain ⟨bb, boff, rfl, _, hbbh, hbcc⟩ := HCB.out (by omega)
                have hbm := hbcc m hml
                have hsm := HZB.out _ (List.getElem_mem hml)
                have HE := Lib.hid he
                clear hbcc he
                go_wp2
                go_quiet (fail)
                have HT3 := Lib.hid (HT2.out.drewN (n := nq))
                have HR3 : Hid (Row (wr.drewN nq) wm.heap.size 47 #[.string rs[j].head, .slice (some ⟨bb, boff, none⟩) rs[j].body.length c']) := Lib.hid HRR.out
                have hB3 : Below w2.heap.size w2 (wr.drewN nq) := ⟨hbr.os, hbr.tape, hbr.output, hbr.size, hbr.block⟩
                clear HT2 HRR hbr r0 r1 hcy hgy hrl hszr
                generalize wr.drewN nq = wq at HT3 HR3 hB3 ⊢
                have hrl := HR3.out.lt
                have r1 := HR3.out.cell 1
                simp at r1
                have hsq := hB3.size
                have hbQ := HB2.out.trans (hB3.mono z2)
                have hcm := (hbQ.cell (p := ⟨bb, boff + m, none⟩) (by show bb < _; omega)).trans hbm
                have HCM := Lib.hid (com_mem (tok := false) HQ.out (s := rs[j].body[m]))
                cases hx : headB rs[j].body[m]
                · have HX := Lib.hid hx
                  clear hx
                  go_wp2_with fail
                  refine (specIsHead_any rs[j].body[m] _ hsm).mono ?_
                  rintro e w8 ⟨rfl, rfl⟩
                  rw [HX.out]
                  cases hn : inB (comOf false rs) rs[j].body[m]
                  · have HNN := Lib.hid hn
                    clear hn
                    go_wp2_with fail
                    refine (specIn_any _ (comOf false rs) rs[j].body[m] _ _ _ (HNU.out.below hB3 (Nat.le_refl _))).mono ?_
                    rintro e w9 ⟨rfl, rfl⟩
                    rw [HNN.out]
                    go_wp2
                    go_roundw
                    case rel => exact ⟨j + 1, ins, by go_num, by omega, HN2.out.next fun _ _ => brk hml HIN.out (fun h => by rw [HX.out] at h; cases h) (fun h => by rw [HCM.out.2 h] at HNN; cases HNN.out), HT3.out, hB3⟩
                    case measure => simp [intOf]; omega
                  · have HNN := Lib.hid hn
                    clear hn
                    go_wp2_with fail
                    refine (specIn_any _ (comOf false rs) rs[j].body[m] _ _ _ (HNU.out.below hB3 (Nat.le_refl _))).mono ?_
                    rintro e w9 ⟨rfl, rfl⟩
                    rw [HNN.out]
                    go_wp2
                    go_roundw
                    case rel => exact ⟨m + 1, ins, by go_num, by omega, HN2.out, fun q hq hqm => by
                      by_cases e : q = m
                      · subst e; exact ⟨HCM.out.1 HNN.out, fun h => by rw [HX.out] at h; cases h⟩
                      · exact HIN.out q hq (by omega), HT3.out, HR3.out, hB3⟩
                    case measure => simp [intOf]; omega
                · have HX := Lib.hid hx
                  have STX := HT3.out.rx.strs (HN2.out.way.size RT.out)
                  clear hx
                  cases hy : inB ins rs[j].body[m]
                  · have HY := Lib.hid hy
                    clear hy
                    go_wp2_with fail
                    refine (specIsHead_any rs[j].body[m] _ hsm).mono ?_
                    rintro e w8 ⟨rfl, rfl⟩
                    rw [HX.out]
                    go_wp2_with fail
                    refine (specIn_any _ ins rs[j].body[m] _ _ _ STX).mono ?_
                    rintro e w8 ⟨rfl, rfl⟩
                    rw [HY.out]
                    go_wp2_with (at_builtin; refine wpList_append_lies _ rfl _ _ 34 rfl w2.heap.size 9 i0 (.string ByteArray.empty) 1 16 Try.underlying34 hi0 hz0 hz1 hz2 rfl (by decide) _ _ _ rfl (World.ownsRow.alloc HT3.out.rx _) ⟨wq.heap.size, 0, none⟩ 1 1 [.string rs[j].body[m]] rfl rfl (cell_one_new _ _ _) (one_str _) (by omega) (by unfold maxLen; omega) (by omega) (by simp; omega) (wq.heap.size + 1) (by simp) ?_)
                    intro gx capx w3 hown3 hg3 hat3 hlt3
                    have T3 := HT3.out.growX hown3 hg3 hat3
                    have R3 := HT3.out.rowX HR3.out (by decide) hg3
                    have B3 := HT3.out.belowX hB3 hsq hg3
                    have z3 := B3.size
                    have r3 := R3.cell 1
                    have h3l := R3.lt
                    simp at r3
                    have b3Q := HB2.out.trans (B3.mono z2)
                    have hcm3 := (b3Q.cell (p := ⟨bb, boff + m, none⟩) (by show bb < _; omega)).trans hbm
                    have HT5 := Lib.hid T3
                    have HR5 := Lib.hid R3
                    have hyl : (hd :: ins).length = ins.length + 1 := rfl
                    clear hown3 hg3 hat3 T3 R3 r1 hcm
                    go_wp2_with (at_builtin; refine wpList_append_lies _ rfl _ _ 34 rfl w2.heap.size 9 i0 (.string ByteArray.empty) 1 16 Try.underlying34 hi0 hz0 hz1 hz2 rfl (by decide) (.slice (some ⟨gy, 0, none⟩) (ins.length + 1) cy) (ins.length + 1) ((hd :: ins).map Value.string) rfl (World.ownsRow.alloc HT5.out.ry _) ⟨w3.heap.size, 0, none⟩ 1 1 [.string rs[j].body[m]] rfl rfl (cell_one_new _ _ _) (one_str _) (by omega) (by unfold maxLen; omega) (by omega) (by simp; omega) (w3.heap.size + 1) (by simp) ?_)
                    intro g4 cap4 w4 hown4 hg4 hat4 hlt4
                    have T4 := HT5.out.growY hown4 hg4 hat4
                    have R4 := HT5.out.rowY HR5.out (by decide) hg4
                    have B4 := HT5.out.belowY B3 z3 hg4
                    have z4 := B4.size
                    have r4 := R4.cell 1
                    have h4l := R4.lt
                    simp at r4
                    have b4Q := HB2.out.trans (B4.mono z2)
                    have hcm4 := (b4Q.cell (p := ⟨bb, boff + m, none⟩) (by show bb < _; omega)).trans hbm
                    have HT6 := Lib.hid T4
                    have HR6 := Lib.hid R4
                    have HN6 := Lib.hid (HN2.out.add hjl HE.out hml (fun q hq hqm => (HIN.out q hq hqm).1) HY.out)
                    have HIN6 : Hid (∀ q (hq : q < rs[j].body.length), q < m → Com false rs rs[j].body[q] ∧ (headB rs[j].body[q] = true → rs[j].body[q] ∈ ins ++ [rs[j].body[m]])) := Lib.hid fun q hq hqm => ⟨(HIN.out q hq hqm).1, fun h => List.mem_append_left _ ((HIN.out q hq hqm).2 h)⟩
                    clear hown4 hg4 hat4 T4 R4 r3 hcm3 B3
                    cases hn : inB (comOf false rs) rs[j].body[m]
                    · have HNN := Lib.hid hn
                      clear hn
                      go_wp2_with fail
                      refine (specIn_any _ (comOf false rs) rs[j].body[m] _ _ _ (HNU.out.below B4 (Nat.le_refl _))).mono ?_
                      rintro e w9 ⟨rfl, rfl⟩
                      rw [HNN.out]
                      go_wp2
                      go_roundw
                      case rel => exact ⟨j + 1, ins ++ [rs[j].body[m]], by go_num, by omega, HN6.out.next fun _ _ => brk hml HIN6.out (fun _ => List.mem_append_right _ (by simp)) (fun h => by rw [HCM.out.2 h] at HNN; cases HNN.out), HT6.out, B4⟩
                      case measure => simp [intOf]; omega
                    · have HNN := Lib.hid hn
                      clear hn
                      go_wp2_with fail
                      refine (specIn_any _ (comOf false rs) rs[j].body[m] _ _ _ (HNU.out.below B4 (Nat.le_refl _))).mono ?_
                      rintro e w9 ⟨rfl, rfl⟩
                      rw [HNN.out]
                      go_wp2
                      go_roundw
                      case rel => exact ⟨m + 1, ins ++ [rs[j].body[m]], by go_num, by omega, HN6.out, fun q hq hqm => by
                        by_cases e : q = m
                        · subst e; exact ⟨HCM.out.1 HNN.out, fun _ => List.mem_append_right _ (by simp)⟩
                        · exact HIN6.out q hq (by omega), HT6.out, HR6.out, B4⟩
                      case measure => simp [intOf]; omega
                  · have HY := Lib.hid hy
                    clear hy
                    go_wp2_with fail
                    refine (specIsHead_any rs[j].body[m] _ hsm).mono ?_
                    rintro e w8 ⟨rfl, rfl⟩
                    rw [HX.out]
                    go_wp2_with fail
                    refine (specIn_any _ ins rs[j].body[m] _ _ _ STX).mono ?_
                    rintro e w8 ⟨rfl, rfl⟩
                    rw [HY.out]
                    cases hn : inB (comOf false rs) rs[j].body[m]
                    · have HNN := Lib.hid hn
                      clear hn
                      go_wp2_with fail
                      refine (specIn_any _ (comOf false rs) rs[j].body[m] _ _ _ (HNU.out.below hB3 (Nat.le_refl _))).mono ?_
                      rintro e w9 ⟨rfl, rfl⟩
                      rw [HNN.out]
                      go_wp2
                      go_roundw
                      case rel => exact ⟨j + 1, ins, by go_num, by omega, HN2.out.next fun _ _ => brk hml HIN.out (fun h => (inB_iff _ _).1 HY.out) (fun h => by rw [HCM.out.2 h] at HNN; cases HNN.out), HT3.out, hB3⟩
                      case measure => simp [intOf]; omega
                    · have HNN := Lib.hid hn
                      clear hn
                      go_wp2_with fail
                      refine (specIn_any _ (comOf false rs) rs[j].body[m] _ _ _ (HNU.out.below hB3 (Nat.le_refl _))).mono ?_
                      rintro e w9 ⟨rfl, rfl⟩
                      rw [HNN.out]
                      go_wp2
                      go_roundw
                      case rel => exact ⟨m + 1, ins, by go_num, by omega, HN2.out, fun q hq hqm => by
                        by_cases e : q = m
                        · subst e; exact ⟨HCM.out.1 HNN.out, fun _ => (inB_iff _ _).1 HY.out⟩
                        · exact HIN.out q hq (by omega), HT3.out, HR3.out, hB3⟩
                      case measure => simp [intOf]; omega
              · have d2 : (rs[j].head.toList == t.toList) = false := by rw [list_eqU, decide_eq_false he]
                have HE := Lib.hid he
                clear he
                go_wp2
                go_quiet (fail)
                have HT3 := Lib.hid (HT2.out.drewN (n := nq))
                have hB3 : Below w2.heap.size w2 (wr.drewN nq) := ⟨hbr.os, hbr.tape, hbr.output, hbr.size, hbr.block⟩
                clear HT2 HRR hbr r0 r1 hcy hgy hrl hszr
                generalize wr.drewN nq = wq at HT3 hB3 ⊢
                go_wp2
                go_roundw
                case rel => exact ⟨j + 1, ins, by go_num, by omega, HN2.out.next fun _ h => absurd h HE.out, HT3.out, hB3⟩
                case measure => simp [intOf]; omega
            · have i1 : decide ((m : Int) < (rs[j].body.length : Int)) = false := decide_eq_false (by omega)
              have HAL : Hid (∀ s, tkLeft (Com false rs) rs[j].body s → headB s = true → s ∈ ins) := Lib.hid (brk_all fun q hq _ => HIN.out q hq (by omega))
              go_wp2
              go_quiet (fail)
              have HT3 := Lib.hid (HT2.out.drewN (n := nq))
              have hB3 : Below w2.heap.size w2 (wr.drewN nq) := ⟨hbr.os, hbr.tape, hbr.output, hbr.size, hbr.block⟩
              clear HT2 HRR hbr r0 r1 hcy hgy hrl hszr
              generalize wr.drewN nq = wq at HT3 hB3 ⊢
              go_wp2
              go_roundw
              case rel => exact ⟨j + 1, ins, by go_num, by omega, HN2.out.next fun _ _ => HAL.out, HT3.out, hB3⟩
              case measure => simp [intOf]; omega
        · have HOL : Hid (OldL rs hd (i + 1) ins1) := Lib.hid (by have hje : j = rs.length := by omega
                                                                  have := HNOW.out; rw [hje] at this; exact this.done)
          go_wp2
          go_roundw
          case rel => exact ⟨i + 1, ins1, by go_num, HOL.out, HTW1.out, hbw⟩
          case measure => simp [intOf]; omega
    · have HO := Lib.hid (HOLD.out.out RT.out HQ.out (by omega))
      have ST := HTWO.out.rx.strs (HOLD.out.way.size RT.out)
      have cG := (HR2.out.below hbw hl2).cell 0
      simp at cG
      have hbW := HB2.out.trans (hbw.mono z2)
      go_wp2_with fail
      refine (specSort_any rs _ _ ins0 lo hi _ _ _ (HV.out.below hbW hh) (by omega) (by omega) ST (Nat.le_refl _)).mono ?_
      rintro e w5 ⟨u, g, rfl, ho, hgg, b5⟩
      rw [HO.out] at ho hgg
      go_wp2
      go_ret
      exact ⟨u, g, rfl, ho, fun hn => by have := hgg hn; omega, hbW.trans (b5.mono hbW.size)⟩
end Go.Proofs.Ytcgmnpfeiiomgaa
