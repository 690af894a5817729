/- Lists of whole numbers: what they read as, the call's own ones, and what a law asks of them: eqInt64S, markInt64S, heldInt64S. -/
import Derived.Test.YtmhdbjoljonhdaaMarkc
import Derived.Test.YtmhdbjoljonhdaaEq
import Derived.Deep.AppendLies
namespace Go.Proofs.Ytmhdbjoljonhdaa
open Go.RowKit

/-- a list of whole numbers, in blocks from lo on ahead of hi -/
def IntsAt (w : World) (lo hi : Nat) (v : Value) (l : List Int) : Prop :=
  ∃ A c, v = .slice A l.length c ∧ l.length ≤ c ∧ c ≤ maxLen ∧
    (0 < l.length → ∃ b off, A = some ⟨b, off, none⟩ ∧ lo ≤ b ∧ b < hi ∧ ∀ i (h : i < l.length), w.cell? ⟨b, off + i, none⟩ = some (.int .i64 l[i]))
theorem IntsAt.keep {w w' : World} {lo hi : Nat} {v : Value} {l : List Int} (h : IntsAt w lo hi v l) (k : Keeps lo hi w w') : IntsAt w' lo hi v l := by
  obtain ⟨A, c, h1, h2, h3, h5⟩ := h
  refine ⟨A, c, h1, h2, h3, fun hp => ?_⟩
  obtain ⟨b, off, e, hl, hh, hc⟩ := h5 hp
  exact ⟨b, off, e, hl, hh, fun i hi => (k.cell (p := ⟨b, off + i, none⟩) hl hh).trans (hc i hi)⟩
theorem IntsAt.below {w w' : World} {lo hi : Nat} {v : Value} {l : List Int} (h : IntsAt w lo hi v l) {B : Nat} (b : Below B w w') (hB : hi ≤ B) : IntsAt w' lo hi v l := h.keep (Keeps.below b hB)
theorem IntsAt.more {w : World} {lo hi lo' hi' : Nat} {v : Value} {l : List Int} (h : IntsAt w lo hi v l) (h1 : lo' ≤ lo) (h2 : hi ≤ hi') : IntsAt w lo' hi' v l := by
  obtain ⟨A, c, a1, a2, a3, a5⟩ := h
  refine ⟨A, c, a1, a2, a3, fun hp => ?_⟩
  obtain ⟨b, off, e, hl, hh, hc⟩ := a5 hp
  exact ⟨b, off, e, by omega, by omega, hc⟩
/-- the whole numbers of a list stand in a block of its own -/
def OwnI (w : World) (g : Nat) (v : Value) (l : List Int) : Prop :=
  ∃ A c, v = .slice A l.length c ∧ l.length ≤ c ∧ c ≤ maxLen ∧
    (0 < l.length → ∃ off cur, A = some ⟨g, off, none⟩ ∧ Row w g 2 cur ∧ ∀ i (h : i < l.length), cur[off + i]? = some (.int .i64 l[i]))
theorem OwnI.keep {w w' : World} {g : Nat} {v : Value} {l : List Int} (h : OwnI w g v l) (e : l ≠ [] → w'.heap[g]? = w.heap[g]?) : OwnI w' g v l := by
  obtain ⟨A, c, h1, h2, h3, h5⟩ := h
  refine ⟨A, c, h1, h2, h3, fun hp => ?_⟩
  obtain ⟨off, cur, ha, hr, hc⟩ := h5 hp
  exact ⟨off, cur, ha, hr.same (e (by intro h0; subst h0; simp at hp)), hc⟩
theorem OwnI.strs {w : World} {g lo hi : Nat} {v : Value} {l : List Int} (h : OwnI w g v l) (hg : l ≠ [] → lo ≤ g ∧ g < hi) : IntsAt w lo hi v l := by
  obtain ⟨A, c, h1, h2, h3, h5⟩ := h
  refine ⟨A, c, h1, h2, h3, fun hp => ?_⟩
  obtain ⟨off, cur, ha, hr, hc⟩ := h5 hp
  obtain ⟨g1, g2⟩ := hg (by intro h0; subst h0; simp at hp)
  exact ⟨g, off, ha, g1, g2, fun i hi => by rw [hr.cell]; exact hc i hi⟩
theorem OwnI.nil (w : World) (g : Nat) : OwnI w g (.slice none 0 0) [] := ⟨none, 0, rfl, Nat.le_refl _, by unfold maxLen; omega, fun h => by simp at h⟩
theorem OwnI.pick {w : World} {g : Nat} {v : Value} {l : List Int} (h : OwnI w g v l) : ∃ g', OwnI w g' v l ∧ (l ≠ [] → g' = g) ∧ (l = [] → w.heap.size ≤ g') := by
  by_cases e : l = []
  · subst e
    obtain ⟨A, c, h1, h2, h3, h5⟩ := h
    exact ⟨w.heap.size, ⟨A, c, h1, h2, h3, fun hp => by simp at hp⟩, fun hn => absurd rfl hn, fun _ => Nat.le_refl _⟩
  · exact ⟨g, h, fun _ => rfl, fun h0 => absurd h0 e⟩
/-- a call hands back such a list, in memory of its own -/
def MadeI (w : World) (l : List Int) (e : Ending) (w' : World) : Prop := ∃ u g, e = .returned u ∧ OwnI w' g u l ∧ (l ≠ [] → w.heap.size ≤ g ∧ g < w'.heap.size) ∧ Below w.heap.size w w'
/-- whole numbers in a row of the call's own -/
def Its (w : World) (base : Nat) (v : Value) (l : List Int) : Prop := w.ownsRow base 2 1 v l.length (l.map (Value.int .i64))
theorem Its.nil (w : World) (base : Nat) : Its w base (.slice none 0 0) [] := World.ownsRow_nil _ _ _ _
theorem Its.lit0 (w : World) {base : Nat} (hb : base ≤ w.heap.size) : Its (w.alloc (.cells #[] 2)) base (.slice (some ⟨w.heap.size, 0, none⟩) 0 0) [] := World.ownsRow_lit w #[] 0 hb (by unfold maxLen; omega) rfl
theorem Its.one {w : World} {base : Nat} {v : Value} {l : List Int} (x : Int) (h : w.ownsRow base 2 1 v (l.length + 1) (l.map (Value.int .i64) ++ [.int .i64 x])) : Its w base v (l ++ [x]) := by
  unfold Its
  rw [List.length_append, List.map_append]
  exact h
theorem Its.form {w : World} {base : Nat} {v : Value} {l : List Int} (h : Its w base v l) : ∃ B d, v = .slice B l.length d := by
  rcases h.2 with ⟨rfl, h0⟩ | ⟨g, cap, cur, rfl, _⟩
  · exact ⟨none, 0, by rw [h0]⟩
  · exact ⟨_, _, rfl⟩
theorem Its.below {w w' : World} {base : Nat} {v : Value} {l : List Int} (h : Its w base v l) (k : Below w.heap.size w w') : Its w' base v l := by
  refine ⟨h.1, ?_⟩
  rcases h.2 with a | ⟨g, cap, cur, rfl, hb, hh, r⟩
  · exact .inl a
  · have hr : Row w g 2 cur := hh
    exact .inr ⟨g, cap, cur, rfl, hb, (k.block g hr.lt).trans hh, r⟩
theorem Its.own {w : World} {base : Nat} {v : Value} {l : List Int} (h : Its w base v l) : ∃ g, OwnI w g v l ∧ (l ≠ [] → base ≤ g ∧ g < w.heap.size) := by
  rcases h.2 with ⟨rfl, h0⟩ | ⟨g, cap, cur, rfl, hb, hh, hc, hm, hs, ht⟩
  · obtain rfl : l = [] := List.eq_nil_of_length_eq_zero h0
    exact ⟨0, OwnI.nil w 0, fun hn => absurd rfl hn⟩
  · have hr : Row w g 2 cur := hh
    refine ⟨g, ⟨_, cap, rfl, hc, hm, fun _ => ⟨0, cur, rfl, hr, fun i hi => ?_⟩⟩, fun _ => ⟨hb, hr.lt⟩⟩
    have h1 : (cur.toList.take (l.length * 1))[i]? = some (.int .i64 l[i]) := by rw [ht, List.getElem?_map, List.getElem?_eq_getElem hi]; rfl
    rw [List.getElem?_take_of_lt (by omega)] at h1
    rw [Nat.zero_add, ← Array.getElem?_toList]
    exact h1
theorem Its.ints {w : World} {base : Nat} {v : Value} {l : List Int} (h : Its w base v l) : IntsAt w base w.heap.size v l := by
  obtain ⟨g, ho, hg⟩ := h.own
  exact ho.strs hg
theorem one_i64 (x : Int) : ∀ u ∈ [Value.int .i64 x], u.oneCell' = true := by
  intro u hu
  rw [List.mem_singleton] at hu; subst hu; rfl
theorem Try.infoI64 : (Try.prog.info? 2).map (fun i => (i.zero, i.size, i.bytes)) = some (some (.int .i64 0), 1, 8) := by kernel_rfl

def eqIs (a b : List Int) : Bool := decide (a = b)
theorem eqIs_t {a b : List Int} (h : a = b) : eqIs a b = true := decide_eq_true h
theorem eqIs_f {a b : List Int} (h : a ≠ b) : eqIs a b = false := decide_eq_false h

set_option maxHeartbeats 1000000 in
theorem eqInt64S_any (v u : Value) (ss ts : List Int) (lo hi lo' hi' : Nat) (w : World) (h : IntsAt w lo hi v ss) (h' : IntsAt w lo' hi' u ts) :
    Calls Try.prog 41 #[v, u] w fun e w' => e = .returned (.bool (eqIs ss ts)) ∧ ∃ n, w' = w.drewN n := by
  obtain ⟨A, c, rfl, hlc, hc, hcell⟩ := h
  obtain ⟨A', c', rfl, hlc', hc', hcell'⟩ := h'
  unfold maxLen at hc hc'
  by_cases hn : ss.length = ts.length
  · have d0 : ((ss.length : Int) != (ts.length : Int)) = false := by rw [bne_eq_false_iff_eq]; omega
    have HN := Lib.hid hn
    have HC := Lib.hid hcell
    have HC' := Lib.hid hcell'
    clear hcell hcell' hn
    go_enter Try.func41, Try.ntmps41
    go_wp2
    go_loopw [5] (fun i wr => ∃ (k n : Nat), k ≤ ss.length ∧ i = .int .i64 k ∧ wr = w.drewN n ∧ (∀ j (h : j < ss.length), j < k → ss[j] = ts[j]'(by have := HN.out; omega))) (fun i _ => ss.length - (intOf i).toNat)
    case atStart => exact ⟨0, 0, by omega, rfl, rfl, fun j _ hj => by omega⟩
    case round =>
      obtain ⟨k, n, hk, rfl, rfl, hall⟩ := hrel
      have HA := Lib.hid hall
      clear hall
      by_cases hlt : k < ss.length
      · have hlt' : k < ts.length := by have := HN.out; omega
        obtain ⟨b, off, rfl, _, hbh, hcc⟩ := HC.out (by omega)
        obtain ⟨b', off', rfl, _, hbh', hcc'⟩ := HC'.out (by omega)
        have hck := hcc k hlt
        have hck' := hcc' k hlt'
        have i1 : (k : Int) < (ss.length : Int) := by omega
        have i2 : (k : Int) < (ts.length : Int) := by omega
        clear hcc hcc'
        by_cases he : ss[k] = ts[k]
        · have d1 : (ss[k] != ts[k]) = false := by rw [bne_eq_false_iff_eq]; exact he
          have HE := Lib.hid he
          clear he
          go_wp2
          go_quiet (fail)
          go_wp2
          go_roundw
          case rel => exact ⟨k + 1, _, by omega, by go_num, rfl, fun j hj hjk => by
            by_cases e : j = k
            · subst e; exact HE.out
            · exact HA.out j hj (by omega)⟩
          case measure => simp [intOf]; omega
        · have d1 : (ss[k] != ts[k]) = true := by rw [bne_iff_ne]; exact he
          go_wp2
          go_quiet (fail)
          go_wp2
          go_ret
          exact ⟨ret_boolE (eqIs_f (fun e => he (by subst e; rfl))).symm, _, World.drewN_drewN _ _ _⟩
      · go_wp2
        go_ret
        exact ⟨ret_boolE (eqIs_t (List.ext_getElem HN.out fun j h1 h2 => HA.out j h1 (by omega))).symm, _, rfl⟩
  · have d0 : ((ss.length : Int) != (ts.length : Int)) = true := by rw [bne_iff_ne]; omega
    go_enter Try.func41, Try.ntmps41
    go_wp2
    go_ret
    exact ⟨ret_boolE (eqIs_f (fun e => hn (by rw [e]))).symm, 0, rfl⟩

/-- n numbers from k on -/
def marksI (k n : Nat) : List Int := (List.range n).map fun i => ((k + i : Nat) : Int)
theorem marksI_len (k n : Nat) : (marksI k n).length = n := by simp [marksI]
theorem marksI_at {k n i : Nat} (h : i < (marksI k n).length) : (marksI k n)[i] = ((k + i : Nat) : Int) := by simp [marksI]

set_option maxHeartbeats 1000000 in
theorem markInt64S_any (v : Value) (ss : List Int) (g k : Nat) (w : World) (h : OwnI w g v ss) (h2 : k + ss.length ≤ 1000000000) :
    Calls Try.prog 44 #[v, .int .i64 (k : Int)] w fun e w' => e = .returned (.int .i64 ((k + ss.length : Nat) : Int)) ∧ OwnI w' g v (marksI k ss.length) ∧ Mid g (g + 1) w w' := by
  obtain ⟨A, c, rfl, hlc, hc, hcell⟩ := h
  by_cases h0 : ss.length = 0
  · obtain rfl : ss = [] := List.eq_nil_of_length_eq_zero h0
    have HO : Hid (OwnI w g (.slice A 0 c) (marksI k 0)) := Lib.hid ⟨A, c, by rw [marksI_len], by rw [marksI_len]; exact hlc, hc, fun hp => by rw [marksI_len] at hp; omega⟩
    clear hcell h0
    simp only [List.length_nil, Nat.add_zero]
    go_enter Try.func44, Try.ntmps44
    go_wp2
    go_loop [1, 5] (fun x i => x = .int .i64 (k : Int) ∧ i = .int .i64 0) (fun _ _ => 0)
    case atStart => exact ⟨rfl, rfl⟩
    case round =>
      obtain ⟨rfl, rfl⟩ := hrel
      go_wp2
      go_ret
      exact ⟨rfl, HO.out, Mid.refl _ _ _⟩
  · obtain ⟨off, cur, rfl, hrow, hcc⟩ := hcell (by omega)
    have hg := hrow.lt
    have hcur : ∀ i, i < ss.length → off + i < cur.size := fun i hi => (Array.getElem?_eq_some_iff.1 (hcc i hi)).1
    have HU := Lib.hid hcur
    have HW := Lib.hid hrow
    clear hcell hcc hrow hcur
    unfold maxLen at hc
    go_enter Try.func44, Try.ntmps44
    go_wp2
    go_loopw [1, 5] (fun x i wr => ∃ (j : Nat) (cur' : Array Value), j ≤ ss.length ∧ i = .int .i64 (j : Int) ∧ x = .int .i64 ((k + j : Nat) : Int) ∧ Row wr g 2 cur' ∧ cur'.size = cur.size ∧ (∀ i, i < j → cur'[off + i]? = some (.int .i64 ((k + i : Nat) : Int))) ∧ Mid g (g + 1) w wr) (fun _ i _ => ss.length - (intOf i).toNat)
    case atStart => exact ⟨0, cur, by omega, rfl, rfl, HW.out, rfl, fun i hi => by omega, Mid.refl _ _ _⟩
    case round =>
      obtain ⟨j, cur', hj, rfl, rfl, hr, hs, hm, hmid⟩ := hrel
      have HM := Lib.hid hm
      have HS := Lib.hid hs
      have HR := Lib.hid hr
      have hgr := hr.lt
      clear hm hs
      by_cases hlt : j < ss.length
      · obtain ⟨u0, hd⟩ := hr.there (show off + j < cur'.size by rw [HS.out]; exact HU.out j hlt)
        have hf := hr.free (off + j)
        clear hr
        go_wp2
        go_roundw
        case rel =>
          refine ⟨j + 1, _, by omega, by go_num, by go_num, HR.out.put (off + j) _, by simp [HS.out], fun i hi => ?_, hmid.setCell (Nat.le_refl _) (by show g < g + 1; omega) _⟩
          by_cases e : i = j
          · subst e; rw [Array.getElem?_setIfInBounds_self_of_lt (by rw [HS.out]; exact HU.out i hlt)]; go_num
          · rw [Array.getElem?_setIfInBounds_ne (by omega)]; exact HM.out i (by omega)
        case measure => simp [intOf]; omega
      · have hjs : j = ss.length := by omega
        subst hjs
        go_wp2
        go_ret
        refine ⟨rfl, ⟨_, c, by rw [marksI_len], by rw [marksI_len]; exact hlc, by unfold maxLen; omega, fun _ => ⟨off, cur', rfl, HR.out, fun i hi => ?_⟩⟩, hmid⟩
        rw [marksI_at]
        exact HM.out i (by rw [marksI_len] at hi; exact hi)

set_option maxHeartbeats 1000000 in
theorem heldInt64S_any (v : Value) (n lo hi k : Nat) (w : World) (h : IntsAt w lo hi v (marksI k n)) (h2 : k + n ≤ 1000000000) :
    Calls Try.prog 45 #[v, .int .i64 (k : Int)] w fun e w' => e = .returned (.int .i64 ((k + n : Nat) : Int)) ∧ Below w.heap.size w w' := by
  obtain ⟨A, c, rfl, hlc, hc, hcell⟩ := h
  rw [marksI_len] at hlc ⊢
  unfold maxLen at hc
  have HC := Lib.hid hcell
  clear hcell
  go_enter Try.func45, Try.ntmps45
  go_wp2
  go_loop [1, 5] (fun x i => ∃ (j : Nat), j ≤ n ∧ i = .int .i64 (j : Int) ∧ x = .int .i64 ((k + j : Nat) : Int)) (fun _ i => n - (intOf i).toNat)
  case atStart => exact ⟨0, by omega, rfl, rfl⟩
  case round =>
    obtain ⟨j, hj, rfl, rfl⟩ := hrel
    by_cases hlt : j < n
    · obtain ⟨b, off, rfl, _, hbh, hcc⟩ := HC.out (by rw [marksI_len]; omega)
      have hck := hcc j (by rw [marksI_len]; exact hlt)
      rw [marksI_at] at hck
      have i1 : (j : Int) < (n : Int) := by omega
      clear hcc
      go_wp2
      go_round
      case rel => exact ⟨j + 1, by omega, by go_num, by go_num⟩
      case measure => simp [intOf]; omega
    · have hjs : j = n := by omega
      subst hjs
      go_wp2
      go_ret
      exact ⟨rfl, Below.refl _ _⟩
theorem markInt64S_one (v : Value) (ss : List Int) (g : Nat) (w : World) (h : OwnI w g v ss) (h2 : ss.length ≤ 2000000) :
    Calls Try.prog 44 #[v, .int .i64 1] w fun e w' => ∃ K : Int, e = .returned (.int .i64 K) ∧ 0 ≤ K ∧ K = ((1 + ss.length : Nat) : Int) ∧ OwnI w' g v (marksI 1 ss.length) ∧ Mid g (g + 1) w w' :=
  Calls.mono (markInt64S_any v ss g 1 w h (by omega)) fun _ _ ⟨h1, h2⟩ => ⟨_, h1, by omega, rfl, h2⟩
theorem heldInt64S_one (v : Value) (n lo hi : Nat) (w : World) (h : IntsAt w lo hi v (marksI 1 n)) (_ : hi ≤ w.heap.size) (h2 : n ≤ 2000000) :
    Calls Try.prog 45 #[v, .int .i64 1] w fun e w' => ∃ K : Int, e = .returned (.int .i64 K) ∧ K = ((1 + n : Nat) : Int) ∧ Below w.heap.size w w' :=
  Calls.mono (heldInt64S_any v n lo hi 1 w h (by omega)) fun _ _ ⟨h1, h2⟩ => ⟨_, h1, rfl, h2⟩
theorem midI_pick {w w' : World} {lo hi g : Nat} {ss : List Int} (h1 : ss ≠ [] → lo ≤ g ∧ g < hi) (h2 : ss = [] → w.heap.size ≤ g) (m : Mid g (g + 1) w w') : Mid lo hi w w' :=
  ⟨m.os, m.tape, m.output, m.size, fun k hk hkk => m.block k hk (by
    by_cases e : ss = []
    · have := h2 e; omega
    · have := h1 e; omega)⟩
end Go.Proofs.Ytmhdbjoljonhdaa
