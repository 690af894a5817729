/- The walk of l04Fill. -/
import Derived.Test.YtonfiahihmcmlaaSp3
namespace Go.Proofs.Ytonfiahihmcmlaa
open Go.RowKit

theorem Try.infoBools : (Try.prog.info? 129).map (fun i => (i.zero, i.size, i.bytes)) = some (some (.slice none 0 0), 1, 24) := by kernel_rfl
theorem one_sl (b : Nat) : ∀ u ∈ [sl169 b], u.oneCell' = true := by
  intro u hu
  rw [List.mem_singleton] at hu; subst hu; rfl
theorem make169 (W : World) : (Instr.makeSlice 129 (.int .i64 169) (.int .i64 169)).run Try.prog W = .ok (.slice (some ⟨W.heap.size, 0, none⟩) 169 169) (W.alloc (.cells (cellsB (fun _ => false) 169) 4)) := by
  have := makeBools 169 (by omega) W
  rw [cellsB_made] at this
  exact this
theorem one_row {w : World} {g : Nat} {ty : TypeId} {a : Value} (r : Row w g ty #[a]) : ∀ j u, [a][j]? = some u → w.cell? ((⟨g, 0, none⟩ : Addr).add j) = some u :=
  World.news_of_block (cs := #[a]) (t := ty) (fr := (0, 0)) r
theorem own_above {w : World} {base : Nat} {ty : TypeId} {v : Value} {n : Nat} {l : List Value} (h : w.ownsRow base ty 1 v n l) {B : Nat} (hB : B ≤ base) : ∀ k, v.ownBlock = some k → B ≤ k := by
  intro k hk
  rcases h.2 with ⟨e, _⟩ | ⟨g', cap', cur, e, h1, _⟩
  · rw [e] at hk; simp [Value.ownBlock] at hk
  · rw [e] at hk
    have : g' = k := by simpa [Value.ownBlock] using hk
    subst this
    omega
/-- what is filled in are places of the text -/
def TIn (t : List ByteArray) (T : TabF) : Prop := ∀ i q, T i q = true → q / 13 ≤ t.length ∧ q % 13 ≤ t.length
/-- what l04Fill hands back -/
def MadeT (w : World) (rs : List RuleD) (t : List ByteArray) (e : Ending) (w' : World) : Prop :=
  ∃ (p : Nat) (A : Option Addr) (c G cG hi : Nat) (R : List Nat) (T : TabF), e = .returned (.pointer (some ⟨p, 0, none⟩)) ∧ TabAt w' p A c G cG hi (hsOf rs) R T ∧ TSound rs t T ∧ TClosed rs t T ∧ TIn t T ∧ w.heap.size ≤ G ∧ Below w.heap.size w w'
/-- where a list of rows grows, other blocks stand -/
theorem InT.stay {w w8 : World} {base p : Nat} {A : Option Addr} {c : Nat} {hs : List ByteArray} {B : Option Addr} {d : Nat} {R : List Nat} (h : InT w base p A c hs (.slice B R.length d) R)
    (hg : ((w.alloc (.cells (cellsB (fun _ => false) 169) 4)).alloc (.cells #[sl169 w.heap.size] 129)).grownBy w8 (Value.slice B R.length d).ownBlock) : (∀ {k : Nat} {ty : TypeId} {cur : Array Value}, Row w k ty cur → ty ≠ 129 → w8.heap[k]? = w.heap[k]?) ∧ Row w8 w.heap.size 4 (cellsB (fun _ => false) 169) := by
  have hlt : ∀ k, k < w.heap.size + 1 → k < ((w.alloc (.cells (cellsB (fun _ => false) 169) 4)).alloc (.cells #[sl169 w.heap.size] 129)).heap.size := fun k hk => by simp; omega
  have hown2 : ∀ k, (Value.slice B R.length d).ownBlock = some k → ∃ cur, Row w k 129 cur := fun k hk => by
    rcases h.own.2 with ⟨e, _⟩ | ⟨g', cap', cur, e, _, hh, _⟩
    · rw [e] at hk; simp [Value.ownBlock] at hk
    · rw [e] at hk
      have : g' = k := by simpa [Value.ownBlock] using hk
      subst this
      exact ⟨cur, hh⟩
  refine ⟨fun {k ty cur} hr hne => ?_, ?_⟩
  · have hk := hr.lt
    have e1 : ((w.alloc (.cells (cellsB (fun _ => false) 169) 4)).alloc (.cells #[sl169 w.heap.size] 129)).heap[k]? = w.heap[k]? := (al2 w _ _).block k hk
    rw [hg.block k (hlt k (by omega)) fun e => ?_, e1]
    obtain ⟨cur', hr'⟩ := hown2 k e.symm
    exact hr.apart hr' hne rfl
  · have r0 := (Row.made w 4 (cellsB (fun _ => false) 169)).alloc (.cells #[sl169 w.heap.size] 129)
    refine r0.same (hg.block _ (hlt _ (by omega)) fun e => ?_)
    obtain ⟨cur', hr'⟩ := hown2 _ e.symm
    exact absurd hr'.lt (by omega)
/-- one more row -/
theorem InT.more {w w8 : World} {base p : Nat} {A : Option Addr} {c : Nat} {hs : List ByteArray} {B : Option Addr} {d : Nat} {R : List Nat} (h : InT w base p A c hs (.slice B R.length d) R) (hp : p < base) {g cap : Nat}
    (hown : w8.ownsRow base 129 1 (.slice (some ⟨g, 0, none⟩) (R.length + 1) cap) (R.length + 1) (R.map sl169 ++ [sl169 w.heap.size])) (hg : ((w.alloc (.cells (cellsB (fun _ => false) 169) 4)).alloc (.cells #[sl169 w.heap.size] 129)).grownBy w8 (Value.slice B R.length d).ownBlock) :
    InT (w8.setCell ⟨p, 1, none⟩ (.slice (some ⟨g, 0, none⟩) (R.length + 1) cap)) base p A c hs (.slice (some ⟨g, 0, none⟩) (R.length + 1) cap) (R ++ [w.heap.size]) := by
  obtain ⟨keep, hnew⟩ := h.stay hg
  have hbox8 : Row w8 p 132 #[.slice A hs.length c, .slice B R.length d] := h.box.same (keep h.box (by decide))
  refine ⟨by simpa using hbox8.put 1 (.slice (some ⟨g, 0, none⟩) (R.length + 1) cap), ?_, fun b hb' => ?_, ?_⟩
  · have e : (R ++ [w.heap.size]).length = R.length + 1 := by simp
    rw [e, List.map_append]
    refine ⟨hown.1, ?_⟩
    rcases hown.2 with ⟨h1, _⟩ | ⟨g', cap', cur, h1, h2, h3, r⟩
    · simp at h1
    · simp only [Value.slice.injEq, Option.some.injEq, Addr.mk.injEq, and_true, true_and] at h1
      obtain ⟨rfl, rfl⟩ := h1
      refine .inr ⟨g, cap, cur, rfl, h2, ?_, r⟩
      rw [Below.heap_setCell _ _ _ _ (by show g ≠ p; omega)]
      exact h3
  · rcases List.mem_append.1 hb' with hb' | hb'
    · have r := h.rows b hb'
      have : Row w8 b 4 (cellsB (fun _ => false) 169) := r.same (keep r (by decide))
      exact this.away (this.apart hbox8 (by decide)) _
    · rw [List.mem_singleton] at hb'
      subst hb'
      exact hnew.away (hnew.apart hbox8 (by decide)) _
  · rw [List.nodup_append]
    exact ⟨h.apart, by simp, fun a ha b hb' e => by rw [List.mem_singleton] at hb'; subst hb' e; exact absurd (h.rows _ ha).lt (by omega)⟩

/-- so much was looked at, and was filled in -/
def Did (rs : List RuleD) (t : List ByteArray) (T : TabF) (i f k : Nat) : Prop := ∀ a (h : a < rs.length) x y, x ≤ t.length → y ≤ t.length → (a < i ∨ (a = i ∧ (x < f ∨ (x = f ∧ y < k)))) → endP T (hsOf rs) t rs[a].body (· = x) y → T (hIx (hsOf rs) rs[a].head) (13 * x + y) = true
section
variable {rs : List RuleD} {t : List ByteArray} {T : TabF} {i f k : Nat}
theorem Did.zero : Did rs t T 0 0 0 := fun a _ x y _ _ h => by omega
theorem Did.all (h : Did rs t T rs.length 0 0) : TClosed rs t T := fun a ha x y hx hy => h a ha x y hx hy (.inl ha)
theorem Did.rule (h : Did rs t T i (t.length + 1) 0) : Did rs t T (i + 1) 0 0 := fun a ha x y hx hy hc => h a ha x y hx hy (by omega)
theorem Did.place (h : Did rs t T i f (t.length + 1)) : Did rs t T i (f + 1) 0 := fun a ha x y hx hy hc => h a ha x y hx hy (by omega)
theorem Did.start (h : Did rs t T i f 0) (S : TSound rs t T) : Did rs t T i f f := fun a ha x y hx hy hc he => by
  by_cases hq : a = i ∧ x = f
  · obtain ⟨rfl, rfl⟩ := hq
    have := (S.ends _ _ he).le
    omega
  · exact h a ha x y hx hy (by omega) he
theorem Did.step (h : Did rs t T i f k) (hs : ∀ h : i < rs.length, endP T (hsOf rs) t rs[i].body (· = f) k → T (hIx (hsOf rs) rs[i].head) (13 * f + k) = true) : Did rs t T i f (k + 1) := fun a ha x y hx hy hc he => by
  by_cases hq : a = i ∧ x = f ∧ y = k
  · obtain ⟨rfl, rfl, rfl⟩ := hq
    exact hs ha he
  · exact h a ha x y hx hy (by omega) he
end
/-- the table at work -/
structure Wk (p : Nat) (w2 : World) (rs : List RuleD) (t : List ByteArray) (A : Option Addr) (c G cG hi : Nat) (R : List Nat) (T : TabF) (wr : World) : Prop where
  tab : TabAt wr p A c G cG hi (hsOf rs) R T
  sound : TSound rs t T
  ins : TIn t T
  low : Below p w2 wr
section
variable {p : Nat} {w2 wr w' : World} {rs : List RuleD} {t : List ByteArray} {A : Option Addr} {c G cG hi : Nat} {R : List Nat} {T : TabF}
theorem Wk.below (h : Wk p w2 rs t A c G cG hi R T wr) (k : Below wr.heap.size wr w') : Wk p w2 rs t A c G cG hi R T w' :=
  ⟨h.tab.below k, h.sound, h.ins, h.low.trans (k.mono (Nat.le_of_lt h.tab.box.lt))⟩
theorem Wk.cells (h : Wk p w2 rs t A c G cG hi R T wr) {i q : Nat} (hi' : i < (hsOf rs).length) (hq : q < 169) : ∃ rb, rb ∈ R ∧ wr.cell? ⟨p, 1, none⟩ = some (.slice (some ⟨G, 0, none⟩) (hsOf rs).length cG) ∧ wr.cell? ⟨G, i, none⟩ = some (.slice (some ⟨rb, 0, none⟩) 169 169) ∧ wr.cell? ⟨rb, q, none⟩ = some (.bool (T i q)) ∧ rb < wr.heap.size ∧ wr.frozen? ⟨rb, q, none⟩ = false :=
  have hl : i < R.length := by rw [h.tab.len]; exact hi'
  ⟨R[i], List.getElem_mem hl, h.tab.box.cell 1, h.tab.ins i hl, by rw [(h.tab.rows i hl).cell, cellsB_get hq], (h.tab.rows i hl).lt, (h.tab.rows i hl).free q⟩
theorem Wk.set (h : Wk p w2 rs t A c G cG hi R T wr) {i f k rb : Nat} (hi' : i < (hsOf rs).length) (hr : wr.cell? ⟨G, i, none⟩ = some (.slice (some ⟨rb, 0, none⟩) 169 169)) (hp : p ≤ rb) (hf : f ≤ t.length) (hk : k ≤ t.length) (h12 : t.length ≤ 12) (hd : ∀ h : i < (hsOf rs).length, Der (· ∈ rs) t [(hsOf rs)[i]] f k) : Wk p w2 rs t A c G cG hi R (setT T i (13 * f + k)) (wr.setCell ⟨rb, 13 * f + k, none⟩ (.bool true)) :=
  ⟨h.tab.set hi' hr, h.sound.set hf hk h12 hd, fun a q ha => by
    unfold setT at ha
    split at ha
    · rename_i e
      rw [e.2]
      constructor <;> omega
    · exact h.ins a q ha, h.low.setCell hp _⟩
end

set_option maxRecDepth 100000 in
set_option maxHeartbeats 16000000 in
theorem specFill_any (rs : List RuleD) (t : List ByteArray) (v tv : Value) (lo hi lo2 hi2 : Nat) (w : World) (h : Rules w lo hi v rs) (hh : hi ≤ w.heap.size) (h2 : Strs w lo2 hi2 tv t) (hh2 : hi2 ≤ w.heap.size) (hg : gramB rs = true) (ht : textB t = true) :
    Calls Try.prog 95 #[.agg #[v], tv] w (MadeT w rs t) := by
  obtain ⟨j0, hj0, hy0, hy1, hy2⟩ := info_parts Try.infoBools
  have hmk := make169
  have R := Rt.of hg
  have h12 := ((textB_iff t).1 ht).1
  have hpos := R.one
  have h20 := R.few
  have HRT := Lib.hid R
  have HV := Lib.hid h
  have HW := Lib.hid h2
  obtain ⟨A, c, rfl, hlc, hc, -⟩ := h
  obtain ⟨B, d, rfl, hld, hd, -, -⟩ := h2
  unfold maxLen at hc hd
  have hb := al1 w (.cells #[.slice A rs.length c] 25)
  have R0 := Row.made w 25 #[.slice A rs.length c]
  have HB := Lib.hid hb
  have HR0 := Lib.hid R0
  have hsz : (w.alloc (.cells #[.slice A rs.length c] 25)).heap.size = w.heap.size + 1 := by simp
  have HSZ := Lib.hid hsz
  have HHL := Lib.hid R.hs_len
  have hhpos : 0 < (hsOf rs).length := List.length_pos_of_mem (hs_all (rs := rs) (i := 0) (by omega))
  clear hb R0 hsz R hg ht
  go_enter Try.func95, Try.ntmps95
  go_wp2_with fail
  refine (specHeadsOf_any rs _ lo hi _ (HV.out.below HB.out hh) (by rw [HSZ.out]; omega) (by omega)).mono ?_
  rintro _ w1 ⟨u1, g1, rfl, ho1, hg1, b1⟩
  have hhs : headsTo rs rs.length = hsOf rs := rfl
  rw [hhs] at ho1 hg1
  have hS1 := ho1.strs (lo := 0) (hi := w1.heap.size) (fun hn => ⟨Nat.zero_le _, (hg1 hn).2⟩)
  obtain ⟨Ah, ch, rfl, hlh, hch, -, -⟩ := ho1
  unfold maxLen at hch
  have B1 := HB.out.trans (b1.mono (by rw [HSZ.out]; omega))
  have z1 := b1.size
  rw [HSZ.out] at z1
  have r01 := HR0.out.below b1 HR0.out.lt
  have hA := al1 w1 (.cells #[.slice Ah (hsOf rs).length ch, .slice none 0 0] 132)
  have B2 := B1.trans (hA.mono B1.size)
  have hS2 := hS1.below hA (Nat.le_refl _)
  have r02 := r01.below hA r01.lt
  have rT := Row.made w1 132 #[.slice Ah (hsOf rs).length ch, .slice none 0 0]
  have hz2 : (w1.alloc (.cells #[.slice Ah (hsOf rs).length ch, .slice none 0 0] 132)).heap.size = w1.heap.size + 1 := by simp
  have HZ2 := Lib.hid hz2
  have hI2 : InT (w1.alloc (.cells #[.slice Ah (hsOf rs).length ch, .slice none 0 0] 132)) (w1.heap.size + 1) w1.heap.size Ah ch (hsOf rs) (.slice none 0 0) [] := ⟨rT, World.ownsRow_nil _ _ _ _, by simp, by simp⟩
  have HI2 := Lib.hid hI2
  have HB2 := Lib.hid B2
  have HS2 := Lib.hid hS2
  have HR02 := Lib.hid r02
  have q0 := rT.cell 0
  simp at q0
  have lT := rT.lt
  clear b1 B1 hA B2 hS1 hS2 r01 r02 rT hI2 hg1 hhs hz2
  have hhl := HHL.out
  go_wp2
  generalize w1.alloc (.cells #[.slice Ah (hsOf rs).length ch, .slice none 0 0] 132) = w2 at *
  go_loopw [21] (fun x wr => ∃ (j : Nat) (v : Value) (Rl : List Nat), j ≤ (hsOf rs).length ∧ x = .int .i64 (j : Int) ∧ Rl.length = j ∧ InT wr (w1.heap.size + 1) w1.heap.size Ah ch (hsOf rs) v Rl ∧ (∀ b ∈ Rl, w1.heap.size ≤ b) ∧ Below w1.heap.size w2 wr) (fun x _ => (hsOf rs).length - (intOf x).toNat)
  case atStart => exact ⟨0, _, [], by omega, rfl, rfl, HI2.out, by simp, Below.refl _ _⟩
  case round =>
    obtain ⟨j, vj, Rl, hj, rfl, hRl, hI, hRlo, hbw⟩ := hrel
    have HLO := Lib.hid hRlo
    clear hRlo
    rename World => wr
    have hsw := hbw.size
    rw [HZ2.out] at hsw
    have HI := Lib.hid hI
    obtain ⟨Bv, dv, rfl⟩ := hI.form
    have q1 := hI.box.cell 1
    simp at q1
    have lp := hI.box.lt
    have HRL := Lib.hid hRl
    have HBW := Lib.hid hbw
    by_cases hlt : j < (hsOf rs).length
    · have hR20 : Rl.length ≤ 20 := by omega
      have HO := Lib.hid hI.own
      have R3 := Row.made1 wr.drew (.cells (cellsB (fun _ => false) 169) 4) 129 #[sl169 wr.heap.size]
      have HR3 := Lib.hid R3
      clear hI hbw hRl R3
      go_wp2
      go_region_law (refine step_append_lies _ (by rfl) _ _ _ (by rfl) (w1.heap.size + 1) 129 j0 _ 1 24 Try.underlying130 hj0 hy0 hy1 hy2 rfl (by omega) (.slice Bv Rl.length dv) Rl.length (Rl.map sl169) (by rfl) (World.ownsRow.alloc (World.ownsRow.alloc (World.ownsRow.drew HO.out) _) _) ⟨wr.heap.size + 1, 0, none⟩ 1 1 [sl169 wr.heap.size] (by rfl) (by rfl) (one_row HR3.out) (one_sl _) (by omega) (by unfold maxLen; omega) (by omega) (by simp; omega) (wr.heap.size + 2) (by simp) ?_; intro gg cap w8 hown8 hg8 hat8 hlt8; have IM := Lib.hid (InT.more (w := wr.drew) (d := dv) (B := Bv) ⟨HI.out.box, World.ownsRow.drew HI.out.own, HI.out.rows, HI.out.apart⟩ (by omega) hown8 hg8); have rb8 : Row w8 w1.heap.size 132 #[.slice Ah (hsOf rs).length ch, .slice Bv Rl.length dv] := HI.out.box.same ((InT.stay (w := wr.drew) (d := dv) (B := Bv) ⟨HI.out.box, World.ownsRow.drew HI.out.own, HI.out.rows, HI.out.apart⟩ hg8).1 HI.out.box (by decide)); have c8 := rb8.cell 1; simp at c8; have f8 := rb8.free 1; have l8 := rb8.lt)
      all_goals
        have HB8 := Lib.hid ((((HBW.out.drew.alloc (by show _ ≤ wr.heap.size; omega) (.cells (cellsB (fun _ => false) 169) 4)).alloc (by simp; omega) (.cells #[sl169 wr.heap.size] 129)).grown hg8 (by simp; omega) (own_above HO.out (by omega))).setCell (p := ⟨w1.heap.size, 1, none⟩) (Nat.le_refl _) (.slice (some ⟨gg, 0, none⟩) (Rl.length + 1) cap))
        clear hown8 hg8 hat8 c8 rb8
        go_wp2
        go_roundw
        case rel => exact ⟨j + 1, _, Rl ++ [_], by omega, by go_num, by simp [HRL.out], IM.out, fun b hb => by
          rcases List.mem_append.1 hb with hb | hb
          · exact HLO.out b hb
          · rw [List.mem_singleton] at hb; subst hb; show _ ≤ wr.heap.size; omega, HB8.out⟩
        case measure => simp [intOf]; omega
    · obtain rfl : j = (hsOf rs).length := by omega
      obtain ⟨G, cG, hvg, hGlo, hT0⟩ := hI.tab (HS2.out.below hbw (Nat.le_refl _)) (by omega) hhpos (by omega)
      have WK0 := Lib.hid (Wk.mk (rs := rs) (t := t) hT0 (fun _ _ _ _ _ _ h => by cases h) (fun _ _ h => by cases h) hbw)
      clear HI HBW HRL hI hbw hRl q1 hT0 hvg
      generalize wr = w3 at *
      go_wp2
      go_loopg [6, 7, 8, 9, 10, 11] (2 * emptyIn (fun _ _ => false) (hsOf rs).length + 1) (fun gk x6 _ _ _ _ _ wr => ∃ (T : TabF) (ag : Bool), x6 = .bool ag ∧ Wk w1.heap.size w2 rs t Ah ch G cG w1.heap.size Rl T wr ∧ (ag = false → TClosed rs t T) ∧ 2 * emptyIn T (hsOf rs).length + (if ag = true then 1 else 0) = gk)
      case atStart => exact ⟨_, true, rfl, WK0.out, (fun h => by cases h), by simp⟩
      case round =>
        obtain ⟨T0, ag, rfl, hW0, hC0, hgk⟩ := hrel
        have HW0 := Lib.hid hW0
        have HC0 := Lib.hid hC0
        have HGK := Lib.hid hgk
        clear WK0 hW0 hC0 hgk
        cases ag
        · go_wp2
          go_ret
          exact ⟨_, _, _, _, _, _, _, _, rfl, HW0.out.tab, HW0.out.sound, HC0.out (by simp), HW0.out.ins, by omega, HB2.out.trans (HW0.out.low.mono (by omega))⟩
        · go_wp2
          go_loopw [6, 7, 8, 9, 10, 11] (fun x6 x7 _ _ _ _ wr => ∃ (i : Nat) (T : TabF) (ag : Bool), i ≤ rs.length ∧ x7 = .int .i64 (i : Int) ∧ x6 = .bool ag ∧ Wk w1.heap.size w2 rs t Ah ch G cG w1.heap.size Rl T wr ∧ Flag (hsOf rs).length T0 T ag (Did rs t T0 i 0 0)) (fun _ x _ _ _ _ _ => rs.length - (intOf x).toNat)
          case atStart => exact ⟨0, T0, false, by omega, rfl, rfl, HW0.out, ⟨fun _ => ⟨rfl, Did.zero⟩, fun h => by cases h⟩⟩
          case round =>
            obtain ⟨i, T3, ag3, hi3, rfl, rfl, hW3, hF3⟩ := hrel
            rename World => x3
            have HW3 := Lib.hid hW3
            have HF3 := Lib.hid hF3
            have hl3 := hW3.low
            have hp3 := hW3.tab.box.lt
            have r03 := HR02.out.below hl3 (by omega)
            have g03 := r03.cell 0
            simp at g03
            have l03 := r03.lt
            have HRU3 := Lib.hid ((HV.out.below HB2.out hh).below hl3 (by omega))
            clear hW3 hF3 hl3 r03
            by_cases hlt : i < rs.length
            · obtain ⟨b, off, rfl, hbh, hlc', hcm', hhz, hch', Bb, db, hcb, hsb⟩ := HRU3.out.at hlt
              have hbx : b < x3.heap.size := by omega
              have HSB := Lib.hid hsb
              clear hsb
              go_wp2_with fail
              refine (tabAt_any (hsOf rs) rs[i].head w1.heap.size w1.heap.size Ah ch _ _ HW3.out.tab.box HW3.out.tab.heads).mono ?_
              rintro _ _ ⟨rfl, rfl⟩
              rw [atZ_in (hs_all hlt)]
              have hix := hIx_lt (hs_all hlt)
              have HX := Lib.hid (hIx_at (hs_all hlt))
              go_wp2
              go_loopw [6, 9, 10, 11] (fun x6 x9 _ _ wr => ∃ (f : Nat) (T : TabF) (ag : Bool), f ≤ t.length + 1 ∧ x9 = .int .i64 (f : Int) ∧ x6 = .bool ag ∧ Wk w1.heap.size w2 rs t Ah ch G cG w1.heap.size Rl T wr ∧ Flag (hsOf rs).length T0 T ag (Did rs t T0 i f 0)) (fun _ x _ _ _ => t.length + 1 - (intOf x).toNat)
              case atStart => exact ⟨0, T3, ag3, by omega, rfl, rfl, HW3.out, HF3.out⟩
              case round =>
                obtain ⟨f, T4, ag4, hf4, rfl, rfl, hW4, hF4⟩ := hrel
                rename World => x4
                have HW4 := Lib.hid hW4
                have HF4 := Lib.hid hF4
                have hl4 := hW4.low
                have hp4 := hW4.tab.box.lt
                have r04 := HR02.out.below hl4 (by omega)
                have g04 := r04.cell 0
                simp at g04
                have l04 := r04.lt
                have HRU4 := Lib.hid ((HV.out.below HB2.out hh).below hl4 (by omega))
                have HTX4 := Lib.hid ((HW.out.below HB2.out hh2).below hl4 (by omega))
                clear hW4 hF4 hl4 r04
                by_cases hlf : f ≤ t.length
                · have i4 : (f : Int) ≤ (t.length : Int) := by omega
                  obtain ⟨b', off', hbe, hbh', _, _, _, hch4, Bb', db', hcb4, hsb4⟩ := HRU4.out.at hlt
                  injection hbe with hbe
                  injection hbe with hbe1 hbe2
                  subst hbe1 hbe2
                  have HSB4 := Lib.hid hsb4
                  have hbx4 : b < x4.heap.size := by omega
                  have HBL := Lib.hid (HRT.out.len i hlt)
                  clear hsb4
                  go_wp2_with fail
                  refine (ends_any (hsOf rs) t rs[i].body T4 Rl w1.heap.size Ah ch G cG w1.heap.size _ _ lo hi lo2 hi2 f _ HW4.out.tab HSB4.out (by omega) HTX4.out (by omega) hlf h12 (by have := HBL.out; omega)).mono ?_
                  rintro _ x5 ⟨ge, rfl, hre, hge, hb5⟩
                  have HW5 := Lib.hid (HW4.out.below hb5)
                  have HRE := Lib.hid hre
                  have HNR : Hid (ge ∉ Rl) := Lib.hid fun hm => by
                    obtain ⟨q, hq, rfl⟩ := List.getElem_of_mem hm
                    have := (HW4.out.tab.rows q hq).lt
                    omega
                  clear hre hb5
                  go_wp2
                  go_loopw [6, 11] (fun x6 x11 wr => ∃ (k : Nat) (T : TabF) (ag : Bool), k ≤ t.length + 1 ∧ x11 = .int .i64 (k : Int) ∧ x6 = .bool ag ∧ Wk w1.heap.size w2 rs t Ah ch G cG w1.heap.size Rl T wr ∧ Flag (hsOf rs).length T0 T ag (Did rs t T0 i f k) ∧ (ag = false → T4 = T0) ∧ Row wr ge 4 (cellsB (fB (endP T4 (hsOf rs) t rs[i].body (· = f))) (t.length + 1))) (fun _ x _ => t.length + 1 - (intOf x).toNat)
                  case atStart => exact ⟨f, T4, ag4, by omega, rfl, rfl, HW5.out, HF4.out.more fun _ hd => hd.start HW0.out.sound, fun e => (HF4.out.no e).1, HRE.out⟩
                  case round =>
                    obtain ⟨k, T6, ag6, hk6, rfl, rfl, hW6, hF6, hE6, hre⟩ := hrel
                    rename World => x6
                    have HW6 := Lib.hid hW6
                    have HF6 := Lib.hid hF6
                    have HE6 := Lib.hid hE6
                    have HR6 := Lib.hid hre
                    by_cases hlk : k ≤ t.length
                    · have i6 : (k : Int) ≤ (t.length : Int) := by omega
                      have i7 : (k : Int) < (t.length : Int) + 1 := by omega
                      obtain ⟨rb, hrb, y0, y1, y2, y3, y4⟩ := hW6.cells (q := 13 * f + k) hix (by omega)
                      have hplo := HLO.out rb hrb
                      have a1 := hre.cell k
                      rw [cellsB_get (by omega)] at a1
                      have lge := hre.lt
                      have lp6 := hW6.tab.box.lt
                      have lG6 := hW6.tab.lt.1
                      have i8 : (hIx (hsOf rs) rs[i].head : Int) < ((hsOf rs).length : Int) := by omega
                      have i9 : (13 * (f : Int) + (k : Int)) < 169 := by omega
                      have i10 : (13 * (f : Int) + (k : Int)).toNat = 13 * f + k := by omega
                      have hgr : ge ≠ rb := fun e => HNR.out (e ▸ hrb)
                      by_cases hend : endP T4 (hsOf rs) t rs[i].body (· = f) k
                      · rw [fB_t hend] at a1
                        have HEN := Lib.hid hend
                        cases hTb : T6 (hIx (hsOf rs) rs[i].head) (13 * f + k)
                        · rw [hTb] at y2
                          have HN := Lib.hid (hW6.set (f := f) (k := k) hix y1 hplo hlf hlk h12 fun hq => by
                            rw [HX.out]
                            exact .head (List.getElem_mem hlt) (HW4.out.sound.ends _ _ hend) (.nil _))
                          have HNF := Lib.hid (hF6.set (D' := Did rs t T0 i f (k + 1)) hix (show 13 * f + k < 169 by omega) hTb)
                          have HNE := Lib.hid (hre.away (p := ⟨rb, 13 * f + k, none⟩) hgr (.bool true))
                          clear hW6 hF6 hE6 hre hend hTb
                          go_wp2
                          go_roundw
                          case rel => exact ⟨k + 1, _, true, by omega, by go_num, rfl, HN.out, HNF.out, (fun e => by cases e), HNE.out⟩
                          case measure => simp [intOf]; omega
                        · rw [hTb] at y2
                          have HNF := Lib.hid (hF6.more (D' := Did rs t T0 i f (k + 1)) fun e hd => hd.step fun _ _ => by rw [← (hF6.no e).1]; exact hTb)
                          clear hW6 hF6 hE6 hre hend hTb
                          go_wp2
                          go_roundw
                          case rel => exact ⟨k + 1, T6, ag6, by omega, by go_num, rfl, HW6.out, HNF.out, HE6.out, HR6.out⟩
                          case measure => simp [intOf]; omega
                      · rw [fB_f hend] at a1
                        have HNF := Lib.hid (hF6.more (D' := Did rs t T0 i f (k + 1)) fun e hd => hd.step fun _ h => absurd (by rw [hE6 e]; exact h) hend)
                        clear hW6 hF6 hE6 hre hend
                        go_wp2
                        go_roundw
                        case rel => exact ⟨k + 1, T6, ag6, by omega, by go_num, rfl, HW6.out, HNF.out, HE6.out, HR6.out⟩
                        case measure => simp [intOf]; omega
                    · have i6 : ¬ (k : Int) ≤ (t.length : Int) := by omega
                      have hke : k = t.length + 1 := by omega
                      have HNF := Lib.hid (hF6.more (D' := Did rs t T0 i (f + 1) 0) fun e hd => by rw [hke] at hd; exact hd.place)
                      clear hW6 hF6 hE6 hre hke
                      go_wp2
                      go_roundw
                      case rel => exact ⟨f + 1, T6, ag6, by omega, by go_num, rfl, HW6.out, HNF.out⟩
                      case measure => simp [intOf]; omega
                · have i4 : ¬ (f : Int) ≤ (t.length : Int) := by omega
                  have HNF : Hid (Flag (hsOf rs).length T0 T4 ag4 (Did rs t T0 (i + 1) 0 0)) := Lib.hid (HF4.out.more fun e hd => by rw [show f = t.length + 1 by omega] at hd; exact hd.rule)
                  go_wp2
                  go_roundw
                  case rel => exact ⟨i + 1, T4, ag4, by omega, by go_num, rfl, HW4.out, HNF.out⟩
                  case measure => simp [intOf]; omega
            · have HNF : Hid (Flag (hsOf rs).length T0 T3 ag3 (TClosed rs t T0)) := Lib.hid (HF3.out.more fun e hd => by rw [show i = rs.length by omega] at hd; exact hd.all)
              clear HF3
              go_wp2
              go_roundg (2 * emptyIn T3 (hsOf rs).length + (if ag3 = true then 1 else 0))
              case measure =>
                have := HGK.out
                have := HNF.out
                cases ag3
                · have e := (HNF.out.no rfl).1
                  rw [e]
                  simp at *
                  omega
                · have e := HNF.out.yes rfl
                  simp at *
                  omega
              case rel => exact ⟨T3, ag3, rfl, HW3.out, fun e => by rw [(HNF.out.no e).1]; exact (HNF.out.no e).2, rfl⟩
end Go.Proofs.Ytonfiahihmcmlaa
