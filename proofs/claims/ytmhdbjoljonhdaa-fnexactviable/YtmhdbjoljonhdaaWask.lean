/- The walk of ask. -/
import Derived.Test.YtmhdbjoljonhdaaWpast
namespace Go.Proofs.Ytmhdbjoljonhdaa
open Go.RowKit Go.Maps Go.Conc

/-- what a rule reads as, at its place -/
theorem Rules.at {w : World} {lo hi : Nat} {A : Option Addr} {c : Nat} {rs : List RuleD} (h : Rules w lo hi (.slice A rs.length c) rs) {j : Nat} (hj : j < rs.length) : ∃ b off, A = some ⟨b, off, none⟩ ∧ b < hi ∧ rs.length ≤ c ∧ c ≤ maxLen ∧ rs[j].head.size ≤ maxLen ∧ w.cell? ⟨b, off + j * 2, none⟩ = some (.string rs[j].head) ∧
    ∃ B d, w.cell? ⟨b, off + j * 2 + 1, none⟩ = some (.slice B rs[j].body.length d) ∧ Strs w lo hi (.slice B rs[j].body.length d) rs[j].body := by
  obtain ⟨A', c', e, h1, h2, h3⟩ := h
  injection e with e1 _ e2
  subst e1 e2
  obtain ⟨b, off, rfl, _, h5, h6⟩ := h3 (by omega)
  obtain ⟨h7, h8, u, h9, h10⟩ := h6 j hj
  have h10' := h10
  obtain ⟨B, d, rfl, _⟩ := h10
  exact ⟨b, off, rfl, h5, h1, h2, h7, h8, B, d, h9, h10'⟩

set_option maxRecDepth 100000 in
set_option maxHeartbeats 2000000 in
theorem ask_any (E : Env) (rs : List RuleD) (t : List ByteArray) (M : List WtM) (S : St) (h : ByteArray) (i : Nat) (w : World) (s : Sea w E rs t M S) (hi : i ≤ t.length) :
    Calls Try.prog 80 #[E.v rs.length t.length, goalV h i] w fun e w' => e = .returned (.tuple #[]) ∧ Sea w' E rs t M (askS rs S h i) ∧ Turn (E.T M) w w' := by
  have hnT : ∀ k, w.heap.size ≤ k → ¬ E.T M k := fun k hk h => by have := s.T_lt h; omega
  have HNT := Lib.hid hnT
  clear hnT
  have h20 := s.fits.few
  have h12 := s.fits.short
  obtain ⟨A, c, B, d, lim, base, bk, bf, bw, bq, cap⟩ := E
  unfold goalV askS asks
  simp only [Env.v]
  have hb := al2 w (.cells #[.slice A rs.length c, .slice B t.length d, .map (some bk), .map (some bf), .map (some bw), .chan (some bq)] 95) (.cells #[.string h, .int .i64 (i : Int)] 107)
  have R0 := (Row.made w 95 #[.slice A rs.length c, .slice B t.length d, .map (some bk), .map (some bf), .map (some bw), .chan (some bq)]).alloc (.cells #[.string h, .int .i64 (i : Int)] 107)
  have R1 := Row.made1 w (.cells #[.slice A rs.length c, .slice B t.length d, .map (some bk), .map (some bf), .map (some bw), .chan (some bq)] 95) 107 #[.string h, .int .i64 (i : Int)]
  have sb := s.below hb
  have HB := Lib.hid hb
  have HS := Lib.hid sb
  have HR0 := Lib.hid R0
  have HR1 := Lib.hid R1
  have hsz : ((w.alloc (.cells #[.slice A rs.length c, .slice B t.length d, .map (some bk), .map (some bf), .map (some bw), .chan (some bq)] 95)).alloc (.cells #[.string h, .int .i64 (i : Int)] 107)).heap.size = w.heap.size + 2 := by simp
  have HSZ := Lib.hid hsz
  clear hb sb R0 R1 s hsz
  go_enter Try.func80, Try.ntmps80
  go_wp2
  go_loopw [4, 5, 9] (fun _ _ x wr => ∃ j : Nat, j ≤ rs.length ∧ x = .int .i64 (j : Int) ∧ Sea wr ⟨A, c, B, d, lim, base, bk, bf, bw, bq, cap⟩ rs t M (putAll S (asksTo rs h i j)) ∧ Turn (Env.T ⟨A, c, B, d, lim, base, bk, bf, bw, bq, cap⟩ M) ((w.alloc (.cells #[.slice A rs.length c, .slice B t.length d, .map (some bk), .map (some bf), .map (some bw), .chan (some bq)] 95)).alloc (.cells #[.string h, .int .i64 (i : Int)] 107)) wr) (fun _ _ x _ => rs.length - (intOf x).toNat)
  case atStart => exact ⟨0, by omega, rfl, HS.out, Turn.refl _ _⟩
  case round =>
    obtain ⟨j, hj, rfl, sj, tj⟩ := hrel
    rename World => wr
    have HSJ := Lib.hid sj
    have HTJ := Lib.hid tj
    have R0 := tj.row HR0.out (HNT.out _ (Nat.le_refl _))
    have R1 := tj.row HR1.out (HNT.out _ (by omega))
    have hz := tj.size
    rw [HSZ.out] at hz
    by_cases hlt : j < rs.length
    · obtain ⟨b, off, rfl, hbh, hlc, hcm, hsm, k0, B2, d2, k1, hst⟩ := sj.rules.at hlt
      unfold maxLen at hcm
      have hbw : b < wr.heap.size := by have := sj.base_lt; have := sj.hib; simp only at *; omega
      have c0 := R0.cell 0
      have c1 := R0.cell 1
      have c2 := R0.cell 2
      have c3 := R0.cell 3
      have c4 := R0.cell 4
      have c5 := R0.cell 5
      have e0 := R1.cell 0
      have e1 := R1.cell 1
      simp at c0 c1 c2 c3 c4 c5 e0 e1
      have l0 := R0.lt
      have l1 := R1.lt
      clear sj tj R0 R1 hst
      by_cases he : rs[j].head = h
      · have d1 : (rs[j].head.toList == h.toList) = true := by rw [list_eqH, decide_eq_true he]
        have HA := Lib.hid (asksTo_t (i := i) hlt he)
        have hb1 := al1 wr (.cells #[.string rs[j].head, .slice B2 rs[j].body.length d2] 39)
        have HB1 := Lib.hid hb1
        have HSL := Lib.hid (Sound.new (t := t) hlt hi)
        clear he hb1
        go_wp2_with fail
        refine (put_any ⟨some ⟨b, off, none⟩, c, B, d, lim, base, bk, bf, bw, bq, cap⟩ rs t M _ ⟨j, 0, i, i⟩ _ (HSJ.out.below HB1.out) HSL.out).mono ?_
        rintro e w8 ⟨rfl, s8, t8⟩
        have HS8 := Lib.hid s8
        have HT8 := Lib.hid t8
        clear s8 t8
        go_wp2
        go_roundw
        case rel => exact ⟨j + 1, by omega, by go_num, by rw [HA.out, putAll_snoc]; exact HS8.out, (HTJ.out.trans (Turn.of_below HB1.out) fun _ h => .inl h).trans HT8.out fun _ h => .inl h⟩
        case measure => simp [intOf]; omega
      · have d1 : (rs[j].head.toList == h.toList) = false := by rw [list_eqH, decide_eq_false he]
        have HA := Lib.hid (asksTo_f (i := i) hlt he)
        have hb1 := al1 wr (.cells #[.string rs[j].head, .slice B2 rs[j].body.length d2] 39)
        have HB1 := Lib.hid hb1
        clear he hb1
        go_wp2
        go_roundw
        case rel => exact ⟨j + 1, by omega, by go_num, by rw [HA.out]; exact HSJ.out.below HB1.out, HTJ.out.trans (Turn.of_below HB1.out) fun _ h => .inl h⟩
        case measure => simp [intOf]; omega
    · have hje : j = rs.length := by omega
      have HJE := Lib.hid hje
      clear sj tj hje
      go_wp2
      go_end0
      exact ⟨rfl, by have := HSJ.out; rwa [HJE.out] at this, (Turn.of_below HB.out).trans HTJ.out fun _ h => .inl h⟩
end Go.Proofs.Ytmhdbjoljonhdaa
