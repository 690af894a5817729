import Derived.Test.YtmhdbjoljonhdaaJSp1
import Derived.Test.YtmhdbjoljonhdaaJWder
import Derived.Test.YtmhdbjoljonhdaaSp4
/- What begins with the rest of a text, as the model asks for it, as data. No program stands in this text. -/
namespace Go.Proofs.Ytmhdbjoljonhdaa
open Go.RowKit

section
variable {R : RuleD → Prop} {t : List ByteArray}
theorem Beg.le {m : Nat} {s : ByteArray} {i : Nat} (h : Beg R t m s i) : i ≤ m := by
  induction h with
  | stop j _ h => exact h.le
  | go j _ h _ _ ih => have := h.le; omega
theorem Beg.cut {m : Nat} {s : ByteArray} {i : Nat} (h : Beg R t m s i) : Beg R (t.take m) m s i := by
  induction h with
  | stop j hr h => exact .stop j hr (h.cut (Nat.le_refl _))
  | go j hr h hj h' ih => exact .go j hr (h.cut h'.le) hj ih
theorem Beg.uncut {n m : Nat} {s : ByteArray} {i : Nat} (h : Beg R (t.take n) m s i) : Beg R t m s i := by
  induction h with
  | stop j hr h => exact .stop j hr h.uncut
  | go j hr h hj _ ih => exact .go j hr h.uncut hj ih
end
theorem good_all {rs : List RuleD} (hg : gramB rs = true) {q : Nat} (hq : q < rs.length) : allB rs[q].body (comOf true rs) true = true ↔ rs[q] ∈ frs rs := by
  rw [frs_mem, allB_iff]
  unfold comOf
  rw [show headsOf rs = hsOf rs from headsOf_t hg]
  constructor
  · intro h
    refine ⟨List.getElem_mem hq, fun s hs => ?_⟩
    cases ht : tokB s
    · have := h s hs (by rw [ht]; rfl)
      rw [List.mem_filter] at this
      exact .inr (by simpa using this.2)
    · exact .inl rfl
  · rintro ⟨_, h⟩ s hs ht
    rcases h s hs with h1 | h1
    · rw [h1] at ht; cases ht
    · rw [List.mem_filter]
      exact ⟨h1.in, by simpa using h1⟩
/-- what l04Body asks -/
def bodyP (T : TabF) (rs : List RuleD) (u : List ByteArray) (Bg : Nat → Bool) (body : List ByteArray) (f : Nat) : Prop :=
  ∃ j, j ≤ body.length ∧ (endP T (hsOf rs) u (body.take j) (· = f) u.length ∨ ∃ k, f ≤ k ∧ k ≤ u.length ∧ ∃ h : j < body.length, endP T (hsOf rs) u (body.take j) (· = f) k ∧ body[j] ∈ hsOf rs ∧ Bg (13 * hIx (hsOf rs) body[j] + k) = true)
def BSound (rs : List RuleD) (u : List ByteArray) (Bg : Nat → Bool) : Prop := ∀ i (h : i < (hsOf rs).length) f, f ≤ u.length → Bg (13 * i + f) = true → Beg (· ∈ frs rs) u u.length (hsOf rs)[i] f
def BDid (rs : List RuleD) (u : List ByteArray) (T : TabF) (Bg : Nat → Bool) (i f : Nat) : Prop := ∀ a (h : a < rs.length) x, x ≤ u.length → (a < i ∨ (a = i ∧ x < f)) → rs[a] ∈ frs rs → bodyP T rs u Bg rs[a].body x → Bg (13 * hIx (hsOf rs) rs[a].head + x) = true
section
variable {rs : List RuleD} {u : List ByteArray} {T : TabF} {Bg : Nat → Bool}
theorem BSound.body (B : BSound rs u Bg) (S : TSound rs u T) (ht : ∀ s ∈ u, tokB s = true) {q f : Nat} (hq : q < rs.length) (hg : rs[q] ∈ frs rs) (h : bodyP T rs u Bg rs[q].body f) : Beg (· ∈ frs rs) u u.length rs[q].head f := by
  obtain ⟨j, hj, h1 | ⟨k, hk, hk2, hl, h1, hm, hb⟩⟩ := h
  · exact .stop j hg ((der_frs ht).2 (S.ends _ _ h1))
  · have := B _ (hIx_lt hm) k hk2 hb
    rw [hIx_at hm] at this
    exact .go j hg ((der_frs ht).2 (S.ends _ _ h1)) (List.getElem?_eq_getElem hl) this
theorem BDid.walk (D : BDid rs u T Bg rs.length 0) (S : TSound rs u T) (C : TClosed rs u T) (R : Rt rs) (ht : ∀ s ∈ u, tokB s = true) {s : ByteArray} {f : Nat} (h : Beg (· ∈ frs rs) u u.length s f) : s ∈ hsOf rs ∧ Bg (13 * hIx (hsOf rs) s + f) = true := by
  have hh := tok_no_head R ht
  induction h with
  | @stop r f j hr h =>
    obtain ⟨q, hq, rfl⟩ := List.getElem_of_mem (frs_mem.1 hr).1
    refine ⟨hs_all hq, D q hq f h.le (.inl hq) hr ?_⟩
    refine ⟨min j rs[q].body.length, Nat.min_le_right _ _, .inl ?_⟩
    rw [ends_tells S C hh h.le, ← List.take_eq_take_min]
    exact (der_frs ht).1 h
  | @go r f k j s hr h hj h' ih =>
    obtain ⟨q, hq, rfl⟩ := List.getElem_of_mem (frs_mem.1 hr).1
    obtain ⟨hl, rfl⟩ := List.getElem?_eq_some_iff.1 hj
    have hk := h'.le
    have hf := h.le
    refine ⟨hs_all hq, D q hq f (by omega) (.inl hq) hr ?_⟩
    exact ⟨j, by omega, .inr ⟨k, hf, hk, hl, (ends_tells S C hh (by omega)).2 ((der_frs ht).1 h), ih.1, ih.2⟩⟩
/-- when nothing is left to be filled in, the list tells all -/
theorem begins_tells (B : BSound rs u Bg) (D : BDid rs u T Bg rs.length 0) (S : TSound rs u T) (C : TClosed rs u T) (R : Rt rs) (ht : ∀ s ∈ u, tokB s = true) {i : Nat} (hi : i < (hsOf rs).length) {f : Nat} (hf : f ≤ u.length) : Bg (13 * i + f) = true ↔ Beg (· ∈ frs rs) u u.length (hsOf rs)[i] f := by
  constructor
  · exact B i hi f hf
  · intro h
    have := (D.walk S C R ht h).2
    rwa [hIx_get (show (hsOf rs).Nodup from headsTo_nodup rs _) hi] at this
theorem BDid.zero : BDid rs u T Bg 0 0 := fun a _ x _ h => by omega
theorem BDid.rule {i : Nat} (h : BDid rs u T Bg i (u.length + 1)) : BDid rs u T Bg (i + 1) 0 := fun a ha x hx hc => h a ha x hx (by omega)
theorem BDid.step {i f : Nat} (h : BDid rs u T Bg i f) (hs : ∀ h : i < rs.length, rs[i] ∈ frs rs → bodyP T rs u Bg rs[i].body f → Bg (13 * hIx (hsOf rs) rs[i].head + f) = true) : BDid rs u T Bg i (f + 1) := fun a ha x hx hc hg hb => by
  by_cases hq : a = i ∧ x = f
  · obtain ⟨rfl, rfl⟩ := hq
    exact hs ha hg hb
  · exact h a ha x hx (by omega) hg hb
end
def setB (Bg : Nat → Bool) (q : Nat) : Nat → Bool := fun p => if p = q then true else Bg p
theorem BSound.set {rs : List RuleD} {u : List ByteArray} {Bg : Nat → Bool} (B : BSound rs u Bg) {i f : Nat} (hf : f ≤ u.length) (h12 : u.length ≤ 12) (hd : ∀ h : i < (hsOf rs).length, Beg (· ∈ frs rs) u u.length (hsOf rs)[i] f) : BSound rs u (setB Bg (13 * i + f)) := by
  intro a ha x hx h
  unfold setB at h
  split at h
  · obtain rfl : a = i := by omega
    obtain rfl : x = f := by omega
    exact hd ha
  · exact B a ha x hx h
/-- whether something was filled in since B0; if not, so much was looked at -/
structure FlagB (n : Nat) (B0 Bg : Nat → Bool) (ag : Bool) (D : Prop) : Prop where
  no : ag = false → Bg = B0 ∧ D
  yes : ag = true → emptyAt Bg n < emptyAt B0 n
theorem FlagB.more {n : Nat} {B0 Bg : Nat → Bool} {ag : Bool} {D D' : Prop} (h : FlagB n B0 Bg ag D) (hd : ag = false → D → D') : FlagB n B0 Bg ag D' := ⟨fun e => ⟨(h.no e).1, hd e (h.no e).2⟩, h.yes⟩
theorem FlagB.set {n : Nat} {B0 Bg : Nat → Bool} {ag : Bool} {D D' : Prop} (h : FlagB n B0 Bg ag D) {q : Nat} (hq : q < n) (hf : Bg q = false) : FlagB n B0 (setB Bg q) true D' := by
  refine ⟨(fun e => by cases e), fun _ => ?_⟩
  have h1 : emptyAt (setB Bg q) n + 1 = emptyAt Bg n := emptyAt_less hq hf (by simp [setB]) fun p hp => by simp [setB, hp]
  cases ag with
  | false => rw [← (h.no rfl).1]; omega
  | true => have := h.yes rfl; omega
end Go.Proofs.Ytmhdbjoljonhdaa

/- The walk of l04Body. -/
namespace Go.Proofs.Ytmhdbjoljonhdaa
open Go.RowKit

open Classical in
noncomputable def yesB (P : Prop) : Bool := decide P
theorem yesB_t {P : Prop} (h : P) : yesB P = true := by simp [yesB, h]
theorem yesB_f {P : Prop} (h : ¬ P) : yesB P = false := by simp [yesB, h]
theorem yesB_iff {P : Prop} : yesB P = true ↔ P := by simp [yesB]
/-- what is asked at one place of the body -/
def hitP (T : TabF) (rs : List RuleD) (u : List ByteArray) (Bg : Nat → Bool) (body : List ByteArray) (f j k : Nat) : Prop := ∃ h : j < body.length, endP T (hsOf rs) u (body.take j) (· = f) k ∧ body[j] ∈ hsOf rs ∧ Bg (13 * hIx (hsOf rs) body[j] + k) = true
theorem bodyP_no {T : TabF} {rs : List RuleD} {u : List ByteArray} {Bg : Nat → Bool} {body : List ByteArray} {f : Nat} (h1 : ∀ j, j ≤ body.length → ¬ endP T (hsOf rs) u (body.take j) (· = f) u.length) (h2 : ∀ j k, f ≤ k → k ≤ u.length → ¬ hitP T rs u Bg body f j k) : ¬ bodyP T rs u Bg body f := by
  rintro ⟨j, hj, h | ⟨k, hk, hk2, h⟩⟩
  · exact h1 j hj h
  · exact h2 j k hk hk2 h
theorem Strs.take {w : World} {lo hi : Nat} {A : Option Addr} {c : Nat} {ss : List ByteArray} (h : Strs w lo hi (.slice A ss.length c) ss) {j : Nat} (hj : j ≤ ss.length) : Strs w lo hi (.slice A j c) (ss.take j) := by
  obtain ⟨A', c', e, h1, h2, h3, h4⟩ := h
  injection e with e1 _ e2
  subst e1 e2
  have hl : (ss.take j).length = j := by rw [List.length_take]; omega
  refine ⟨A, c, by rw [hl], by omega, h2, fun s hs => h3 s (List.mem_of_mem_take hs), fun hp => ?_⟩
  obtain ⟨b, off, e, a1, a2, a3⟩ := h4 (by omega)
  refine ⟨b, off, e, a1, a2, fun i hi => ?_⟩
  rw [List.getElem_take]
  exact a3 i (by omega)

set_option maxRecDepth 100000 in
set_option maxHeartbeats 8000000 in
theorem specBody_any (rs : List RuleD) (u body good : List ByteArray) (T : TabF) (Bg : Nat → Bool) (R : List Nat) (p : Nat) (A : Option Addr) (c G cG hi gb : Nat) (bv tv gv : Value) (lb hb lt ht lg hg f : Nat) (w : World) (h : TabAt w p A c G cG hi (hsOf rs) R T) (hB : Strs w lb hb bv body) (hhb : hb ≤ w.heap.size) (hT : Strs w lt ht tv u) (hht : ht ≤ w.heap.size) (hG : Strs w lg hg gv good) (hr : Row w gb 4 (cellsB Bg ((hsOf rs).length * 13))) (hf : f ≤ u.length) (h12 : u.length ≤ 12) (hb5 : body.length ≤ 5) (hs20 : (hsOf rs).length ≤ 20) :
    Calls Try.prog 115 #[.pointer (some ⟨p, 0, none⟩), bv, tv, .int .i64 (f : Int), gv, .slice (some ⟨gb, 0, none⟩) ((hsOf rs).length * 13) ((hsOf rs).length * 13)] w fun e w' => e = .returned (.bool (allB body good true && yesB (bodyP T rs u Bg body f))) ∧ Below w.heap.size w w' := by
  have HTAB := Lib.hid h
  have HB := Lib.hid hB
  have HT := Lib.hid hT
  have HG := Lib.hid hG
  have HR := Lib.hid hr
  obtain ⟨Ab, cb, rfl, hlb, hcb, -, -⟩ := hB
  obtain ⟨At, ct, rfl, hlt', hct, -, -⟩ := hT
  unfold maxLen at hcb hct
  have hlp := h.box.lt
  have lgb := hr.lt
  clear h hr hG
  cases hall : allB body good true
  · have HA := Lib.hid hall
    clear hall
    go_enter Try.func115, Try.ntmps115
    go_wp2_with fail
    refine (specAll_any _ _ body good true lb hb lg hg _ HB.out HG.out).mono ?_
    rintro _ _ ⟨rfl, rfl⟩
    rw [HA.out]
    go_wp2
    go_ret
    exact ⟨rfl, Below.refl _ _⟩
  · have HA := Lib.hid hall
    clear hall
    go_enter Try.func115, Try.ntmps115
    go_wp2_with fail
    refine (specAll_any _ _ body good true lb hb lg hg _ HB.out HG.out).mono ?_
    rintro _ _ ⟨rfl, rfl⟩
    rw [HA.out]
    go_wp2
    go_loopw [13, 14, 15, 16] (fun x _ _ _ wr => ∃ j : Nat, j ≤ body.length + 1 ∧ x = .int .i64 (j : Int) ∧ (∀ j', j' < j → ¬ endP T (hsOf rs) u (body.take j') (· = f) u.length) ∧ (∀ j' k, j' < j → f ≤ k → k ≤ u.length → ¬ hitP T rs u Bg body f j' k) ∧ Below w.heap.size w wr) (fun x _ _ _ _ => body.length + 1 - (intOf x).toNat)
    case atStart => exact ⟨0, by omega, rfl, fun j' h => by omega, fun j' k h => by omega, Below.refl _ _⟩
    case round =>
      obtain ⟨j, hj, rfl, hn1, hn2, hbw⟩ := hrel
      rename World => wr
      have HN1 := Lib.hid hn1
      have HN2 := Lib.hid hn2
      have HBW := Lib.hid hbw
      have hsw := hbw.size
      clear hn1 hn2 hbw
      by_cases hlt : j ≤ body.length
      · have i1 : (j : Int) ≤ (body.length : Int) := by omega
        have i2 : (j : Int) ≤ (cb : Int) := by omega
        go_wp2_with fail
        refine (ends_any (hsOf rs) u (body.take j) T R p A c G cG hi _ _ lb hb lt ht f _ (HTAB.out.below HBW.out) ((HB.out.below HBW.out hhb).take hlt) (by omega) (HT.out.below HBW.out hht) (by omega) hf h12 (by rw [List.length_take]; omega)).mono ?_
        rintro _ x5 ⟨ge, rfl, hre, hge, b5⟩
        have B5 := HBW.out.trans (b5.mono hsw)
        have HB5 := Lib.hid B5
        have HRE := Lib.hid hre
        have HRG := Lib.hid (HR.out.below B5 lgb)
        have z5 := B5.size
        have lge := hre.lt
        have a1 := hre.cell u.length
        rw [cellsB_get (by omega)] at a1
        have i3 : (u.length : Int) < (u.length : Int) + 1 := by omega
        clear hre b5 B5
        by_cases hend : endP T (hsOf rs) u (body.take j) (· = f) u.length
        · rw [fB_t hend] at a1
          have HF := Lib.hid (yesB_t (P := bodyP T rs u Bg body f) ⟨j, hlt, .inl hend⟩)
          clear hend
          go_wp2
          go_ret
          rw [HF.out]
          exact ⟨rfl, HB5.out⟩
        · rw [fB_f hend] at a1
          have HEN := Lib.hid hend
          clear hend
          go_wp2
          go_loopw [15, 16] (fun x _ wq => ∃ k : Nat, f ≤ k ∧ k ≤ u.length + 1 ∧ x = .int .i64 (k : Int) ∧ (∀ k', f ≤ k' → k' < k → ¬ hitP T rs u Bg body f j k') ∧ wq = x5) (fun x _ _ => u.length + 1 - (intOf x).toNat)
          case atStart => exact ⟨f, Nat.le_refl _, by omega, rfl, (fun k' h1 h2 => by omega), rfl⟩
          case round =>
            obtain ⟨k, hk1, hk2, rfl, hk3, rfl⟩ := hrel
            rename World => wq
            have HK3 := Lib.hid hk3
            clear hk3
            by_cases hlk : k ≤ u.length ∧ j < body.length
            · obtain ⟨hlk, hjl⟩ := hlk
              have i4 : (k : Int) ≤ (u.length : Int) := by omega
              have i5 : (j : Int) < (body.length : Int) := by omega
              have i6 : (k : Int) < (u.length : Int) + 1 := by omega
              obtain ⟨b, off, rfl, hbh, _, _, hbj⟩ := (HB.out.below HB5.out hhb).at hjl
              have hbx : b < wq.heap.size := by omega
              have a2 := HRE.out.cell k
              rw [cellsB_get (by omega)] at a2
              go_wp2_with fail
              refine (tabAt_any (hsOf rs) body[j] p hi A c _ _ (HTAB.out.box.below HB5.out hlp) (HTAB.out.heads.below HB5.out HTAB.out.lt.2)).mono ?_
              rintro _ _ ⟨rfl, rfl⟩
              by_cases hend : endP T (hsOf rs) u (body.take j) (· = f) k
              · rw [fB_t hend] at a2
                have HE2 := Lib.hid hend
                clear hend
                by_cases hm : body[j] ∈ hsOf rs
                · rw [atZ_in hm]
                  have hix := hIx_lt hm
                  have HM := Lib.hid hm
                  clear hm
                  have ige : (0 : Int) ≤ (hIx (hsOf rs) body[j] : Int) := by omega
                  have a3 := HRG.out.cell (13 * hIx (hsOf rs) body[j] + k)
                  rw [cellsB_get (by omega)] at a3
                  have lgq := HRG.out.lt
                  have i7 : (13 * (hIx (hsOf rs) body[j] : Int) + (k : Int)) < (((hsOf rs).length * 13 : Nat) : Int) := by omega
                  have i8 : (13 * (hIx (hsOf rs) body[j] : Int) + (k : Int)).toNat = 13 * hIx (hsOf rs) body[j] + k := by omega
                  cases hb : Bg (13 * hIx (hsOf rs) body[j] + k)
                  · rw [hb] at a3
                    have HNB : Hid (¬ hitP T rs u Bg body f j k) := Lib.hid fun ⟨_, _, _, h⟩ => by rw [hb] at h; cases h
                    clear hb
                    go_wp2
                    go_roundw
                    case rel => exact ⟨k + 1, by omega, by omega, by go_num, fun k' h1 h2 => by
                      by_cases e : k' = k
                      · subst e; exact HNB.out
                      · exact HK3.out k' h1 (by omega), (by first | rfl | trivial)⟩
                    case measure => simp [intOf]; omega
                  · rw [hb] at a3
                    have HF := Lib.hid (yesB_t (P := bodyP T rs u Bg body f) ⟨j, hlt, .inr ⟨k, hk1, hlk, hjl, HE2.out, HM.out, hb⟩⟩)
                    clear hb
                    go_wp2
                    go_ret
                    rw [HF.out]
                    exact ⟨rfl, HB5.out⟩
                · rw [atZ_out hm]
                  have HNB : Hid (¬ hitP T rs u Bg body f j k) := Lib.hid fun ⟨_, _, h, _⟩ => hm h
                  clear hm
                  go_wp2
                  go_roundw
                  case rel => exact ⟨k + 1, by omega, by omega, by go_num, fun k' h1 h2 => by
                    by_cases e : k' = k
                    · subst e; exact HNB.out
                    · exact HK3.out k' h1 (by omega), (by first | rfl | trivial)⟩
                  case measure => simp [intOf]; omega
              · rw [fB_f hend] at a2
                have HNB : Hid (¬ hitP T rs u Bg body f j k) := Lib.hid fun ⟨_, h, _⟩ => hend h
                clear hend
                generalize atZ (hsOf rs) body[j] = zz
                go_wp2
                go_roundw
                case rel => exact ⟨k + 1, by omega, by omega, by go_num, fun k' h1 h2 => by
                  by_cases e : k' = k
                  · subst e; exact HNB.out
                  · exact HK3.out k' h1 (by omega), (by first | rfl | trivial)⟩
                case measure => simp [intOf]; omega
            · have HNX : Hid (∀ k', f ≤ k' → k' ≤ u.length → ¬ hitP T rs u Bg body f j k') := Lib.hid fun k' h1 h2 hh => by
                obtain ⟨hjl, _⟩ := id hh
                exact HK3.out k' h1 (by omega) hh
              by_cases hlk2 : k ≤ u.length
              · have i4 : (k : Int) ≤ (u.length : Int) := by omega
                have i5 : ¬ (j : Int) < (body.length : Int) := by omega
                clear hlk
                go_wp2
                go_roundw
                case rel => exact ⟨j + 1, by omega, by go_num, fun j' h => by
                    by_cases e : j' = j
                    · subst e; exact HEN.out
                    · exact HN1.out j' (by omega), fun j' k' h h1 h2 => by
                    by_cases e : j' = j
                    · subst e; exact HNX.out k' h1 h2
                    · exact HN2.out j' k' (by omega) h1 h2, HB5.out⟩
                case measure => simp [intOf]; omega
              · have i4 : ¬ (k : Int) ≤ (u.length : Int) := by omega
                clear hlk
                go_wp2
                go_roundw
                case rel => exact ⟨j + 1, by omega, by go_num, fun j' h => by
                    by_cases e : j' = j
                    · subst e; exact HEN.out
                    · exact HN1.out j' (by omega), fun j' k' h h1 h2 => by
                    by_cases e : j' = j
                    · subst e; exact HNX.out k' h1 h2
                    · exact HN2.out j' k' (by omega) h1 h2, HB5.out⟩
                case measure => simp [intOf]; omega
      · have i1 : ¬ (j : Int) ≤ (body.length : Int) := by omega
        have HF := Lib.hid (yesB_f (bodyP_no (T := T) (rs := rs) (u := u) (Bg := Bg) (body := body) (f := f) (fun j' h => HN1.out j' (by omega)) (fun j' k h1 h2 hh => HN2.out j' k (by obtain ⟨h, _⟩ := hh; omega) h1 h2 hh)))
        go_wp2
        go_ret
        rw [HF.out]
        exact ⟨rfl, HBW.out⟩
end Go.Proofs.Ytmhdbjoljonhdaa
