import Derived.Test.YtcgmnpfeiiomgaaJVb
import Derived.Test.YtcgmnpfeiiomgaaJAft
import Derived.Deep.RegionLaw
import Derived.Test.YtcgmnpfeiiomgaaJSplit
import Derived.Test.YtcgmnpfeiiomgaaJLeftP
/- The walk of the model's l03Alone. -/
namespace Go.Proofs.Ytcgmnpfeiiomgaa
open Go.RowKit

theorem step_append_own {P : Program} {w : World} {ops : Array Oper} {o : Oper} {a : Act} {K : Act → World → Prop} {Q : Exit → Act → World → Prop} {E : Prop} (hgd : o.guard = none) (s x : Operand) (t : TypeId)
    (ho : o.op = .call { callee := .builtin .append, args := #[s, x], argTypes := #[t, t] })
    (base : Nat) (e : TypeId) (i : TypeInfo) (z : Value) (size bytes : Nat) (ht : P.underlying t = some (.slice e)) (hi : P.info? e = some i) (hz : i.zero = some z)
    (hsize : i.size = size) (hby : i.bytes = bytes) (hzs : z.cells.size = size) (hsz : 0 < size)
    (v : Value) (n : Nat) (xs : List Value) (hs : a.eval s = v) (hown : w.ownsRow base e size v n xs)
    (ad : Addr) (m c : Nat) (news : List Value) (hx : a.eval x = .slice (some ad) m c) (hl : news.length = m * size) (hnews : ∀ j u, news[j]? = some u → w.cell? (ad.add j) = some u) (h1 : ∀ u ∈ news, u.oneCell' = true)
    (h63 : n + m ≤ maxLen) (hbytes : (n + m) * bytes ≤ 140737488355328) (hbase : base ≤ w.heap.size)
    (h : ∀ v' w', w'.ownsRow base e size v' (n + m) (xs ++ news) → w.grownBy w' v.ownBlock → (v' = .slice none 0 0 ↔ v = .slice none 0 0 ∧ m = 0) → K (a.put o.dst v') w') :
    if Region.wanted o (yielded ops a.tmps) = true then Oper.wp P o a w K Q else E := by
  have hw : Region.wanted o (yielded ops a.tmps) = true := by simp [Region.wanted, hgd]
  rw [if_pos hw]
  exact wp_append_own w s x t ho base e i z size bytes ht hi hz hsize hby hzs hsz v n xs hs hown ad m c news hx hl hnews h1 h63 hbytes hbase h

def restL (body : List ByteArray) (k : Nat) : List ByteArray := body.take k ++ body.drop (k + 1)
def aloneB (body nu : List ByteArray) (k : Nat) : Bool := headB (body.getD k ByteArray.empty) && allB (restL body k) nu false
def aloneTo (body nu : List ByteArray) (k : Nat) : List ByteArray := ((List.range k).filter (aloneB body nu)).map fun i => body.getD i ByteArray.empty
theorem aloneTo_t {body nu : List ByteArray} {k : Nat} (hk : k < body.length) (h1 : headB body[k] = true) (h2 : allB (restL body k) nu false = true) : aloneTo body nu (k + 1) = aloneTo body nu k ++ [body[k]] := by
  have e : aloneB body nu k = true := by unfold aloneB; simp [hk, h1, h2]
  unfold aloneTo; rw [List.range_succ, List.filter_append]; simp [e, hk]
theorem aloneTo_f {body nu : List ByteArray} {k : Nat} (hk : k < body.length) (h : (headB body[k] && allB (restL body k) nu false) = false) : aloneTo body nu (k + 1) = aloneTo body nu k := by
  have e : aloneB body nu k = false := by unfold aloneB; simpa [hk] using h
  unfold aloneTo; rw [List.range_succ, List.filter_append]; simp [e]
theorem aloneTo_len (body nu : List ByteArray) (k : Nat) : (aloneTo body nu k).length ≤ k := by
  unfold aloneTo
  rw [List.length_map]
  refine Nat.le_trans (List.length_filter_le _ _) ?_
  rw [List.length_range]; exact Nat.le_refl _
theorem aloneTo_mem {body nu : List ByteArray} {k : Nat} (hk : k ≤ body.length) {s : ByteArray} (h : s ∈ aloneTo body nu k) : s ∈ body := by
  unfold aloneTo at h
  obtain ⟨i, hi, rfl⟩ := List.mem_map.1 h
  have := List.mem_range.1 (List.mem_filter.1 hi).1
  have hl : i < body.length := by omega
  simp [hl]
theorem restL_mem {body : List ByteArray} {k : Nat} {s : ByteArray} : s ∈ restL body k ↔ ∃ m, ∃ h : m < body.length, m ≠ k ∧ body[m] = s := by
  unfold restL
  rw [List.mem_append, List.mem_take_iff_getElem, List.mem_drop_iff_getElem]
  constructor
  · rintro (⟨i, hi, rfl⟩ | ⟨i, hi, rfl⟩)
    · exact ⟨i, by omega, by omega, rfl⟩
    · exact ⟨_, by omega, by omega, rfl⟩
  · rintro ⟨m, hm, hne, rfl⟩
    rcases Nat.lt_or_gt_of_ne hne with h | h
    · exact .inl ⟨m, by omega, rfl⟩
    · exact .inr ⟨m - (k + 1), by omega, by congr 1; omega⟩
theorem alone_mem {body nu : List ByteArray} {nul : ByteArray → Prop} (hn : ∀ s, s ∈ nu ↔ nul s) {s : ByteArray} : s ∈ aloneTo body nu body.length ↔ headB s = true ∧ tkAlone nul body s := by
  unfold aloneTo
  rw [List.mem_map]
  constructor
  · rintro ⟨i, hi, rfl⟩
    rw [List.mem_filter, List.mem_range] at hi
    obtain ⟨hi, hb⟩ := hi
    unfold aloneB at hb
    rw [Bool.and_eq_true] at hb
    refine ⟨hb.1, i, hi, by simp [hi], fun m hm hne => ?_⟩
    rw [allB_iff] at hb
    rw [← hn]
    exact hb.2 _ (restL_mem.2 ⟨m, hm, hne, rfl⟩) rfl
  · rintro ⟨hh, i, hi, rfl, hall⟩
    refine ⟨i, ?_, by simp [hi]⟩
    rw [List.mem_filter, List.mem_range]
    refine ⟨hi, ?_⟩
    unfold aloneB
    rw [Bool.and_eq_true, allB_iff]
    refine ⟨by simpa [hi] using hh, fun t ht _ => ?_⟩
    obtain ⟨m, hm, hne, rfl⟩ := restL_mem.1 ht
    rw [hn]
    exact hall m hm hne
theorem strs_one (l : List ByteArray) : ∀ u ∈ l.map Value.string, u.oneCell' = true := by
  intro u hu
  obtain ⟨s, _, rfl⟩ := List.mem_map.1 hu
  rfl

theorem below_first {wr w1 : World} (hg : (wr.drew.alloc (.cells #[] 9)).grownBy w1 (Value.slice (some ⟨wr.heap.size, 0, none⟩) 0 0).ownBlock) : Below wr.heap.size wr w1 := by
  have a := al1 wr.drew (.cells #[] 9)
  have ho : (wr.drew.alloc (.cells #[] 9)).ownsRow wr.heap.size 9 1 (.slice (some ⟨wr.heap.size, 0, none⟩) 0 0) 0 [] := World.ownsRow_lit wr.drew #[] 0 (Nat.le_refl _) (by unfold maxLen; omega) rfl
  have := Tx.below_grown (B := wr.heap.size) a ho hg (by simp) (Nat.le_refl _)
  exact ⟨this.os, this.tape, this.output, this.size, this.block⟩

set_option maxRecDepth 100000 in
set_option maxHeartbeats 4000000 in
theorem specAlone_any (v x : Value) (body nu : List ByteArray) (lo hi lo' hi' : Nat) (w : World) (h : Strs w lo hi v body) (hx : Strs w lo' hi' x nu) (hh : hi ≤ w.heap.size) (hh' : hi' ≤ w.heap.size) (h5 : body.length ≤ 5) :
    Calls Try.prog 178 #[v, x] w (MadeS w (aloneTo body nu body.length)) := by
  obtain ⟨i0, hi0, hz0, hz1, hz2⟩ := info_parts Try.infoStr
  have HV := Lib.hid h
  have HX := Lib.hid hx
  obtain ⟨X, xc, rfl, -⟩ := hx
  obtain ⟨A, c, rfl, hlc, hc, hsz, hcell⟩ := h
  unfold maxLen at hc
  have HC := Lib.hid hcell
  have HZ := Lib.hid hsz
  clear hcell hsz
  go_enter Try.func178, Try.ntmps178
  go_wp2
  go_loopw [5, 6, 7] (fun o i _ wr => ∃ k : Nat, k ≤ body.length ∧ i = .int .i64 k ∧ Sts wr w.heap.size o (aloneTo body nu k) ∧ Below w.heap.size w wr) (fun _ i _ _ => body.length - (intOf i).toNat)
  case atStart => exact ⟨0, by omega, rfl, Sts.nil _ (Nat.le_refl _), al1 _ _⟩
  case round =>
    obtain ⟨k, hk, rfl, hsts, hbw⟩ := hrel
    have hsw := hbw.size
    have hln := aloneTo_len body nu k
    by_cases hlt : k < body.length
    · obtain ⟨b, off, rfl, hbl, hbh, hcc⟩ := HC.out (by omega)
      have hck := (hbw.cell (p := ⟨b, off + k, none⟩) (by show b < _; omega)).trans (hcc k hlt)
      have HCC : Hid (∀ i (h : i < body.length), wr.cell? ⟨b, off + i, none⟩ = some (.string body[i])) := Lib.hid fun i hi => (hbw.cell (p := ⟨b, off + i, none⟩) (by show b < _; omega)).trans (hcc i hi)
      have kc : k ≤ c := by omega
      have kl : k + 1 ≤ body.length := hlt
      clear hcc
      obtain ⟨ad, had, hnw⟩ : ∃ ad : Addr, (if c = k + 1 then some (⟨b, off, none⟩ : Addr) else some ⟨b, off + (k + 1), none⟩) = some ad ∧ ∀ (W : World), (∀ i (h : i < body.length), W.cell? ⟨b, off + i, none⟩ = some (.string body[i])) → ∀ j u, ((body.drop (k + 1)).map Value.string)[j]? = some u → W.cell? (ad.add j) = some u := by
        by_cases e : c = k + 1
        · refine ⟨_, if_pos e, fun W _ j u hu => ?_⟩
          have : body.drop (k + 1) = [] := List.drop_eq_nil_of_le (by omega)
          rw [this] at hu; simp at hu
        · refine ⟨_, if_neg e, fun W hW j u hu => ?_⟩
          rw [List.getElem?_map, List.getElem?_drop] at hu
          have hjl : k + 1 + j < body.length := by
            rcases Nat.lt_or_ge (k + 1 + j) body.length with h | h
            · exact h
            · rw [List.getElem?_eq_none h] at hu; simp at hu
          rw [List.getElem?_eq_getElem hjl] at hu
          simp at hu
          rw [← hu, ← hW _ hjl]
          congr 1
          unfold Addr.add; split <;> simp_all <;> omega
      have HNW := Lib.hid hnw
      have HNT : Hid (∀ (W : World), (∀ i (h : i < body.length), W.cell? ⟨b, off + i, none⟩ = some (.string body[i])) → ∀ j u, ((body.take k).map Value.string)[j]? = some u → W.cell? ((⟨b, off, none⟩ : Addr).add j) = some u) := Lib.hid fun W hW j u hu => by
        rw [List.getElem?_map] at hu
        have hjl : j < k := by
          rcases Nat.lt_or_ge j k with h | h
          · exact h
          · rw [List.getElem?_eq_none (by rw [List.length_take]; omega)] at hu; simp at hu
        rw [List.getElem?_take_of_lt hjl, List.getElem?_eq_getElem (by omega)] at hu
        simp at hu
        rw [← hu, ← hW j (by omega)]
        congr 1
        unfold Addr.add; split <;> simp_all
      have HO1 : Hid ((wr.drew.alloc (.cells #[] 9)).ownsRow wr.heap.size 9 1 (.slice (some ⟨wr.heap.size, 0, none⟩) 0 0) 0 []) := Lib.hid (World.ownsRow_lit wr.drew #[] 0 (Nat.le_refl _) (by unfold maxLen; omega) rfl)
      have hlt1 : ((body.take k).map Value.string).length = k * 1 := by rw [List.length_map, List.length_take]; omega
      have hlt2 : ((body.drop (k + 1)).map Value.string).length = (body.length - (k + 1)) * 1 := by rw [List.length_map, List.length_drop]; omega
      have HW1 : Hid (∀ i (h : i < body.length), (wr.drew.alloc (.cells #[] 9)).cell? ⟨b, off + i, none⟩ = some (.string body[i])) := Lib.hid fun i hi => ((al1 wr.drew _).cell (p := ⟨b, off + i, none⟩) (by show b < wr.heap.size; omega)).trans (HCC.out i hi)
      have HL1 := Lib.hid hlt1
      have HL2 := Lib.hid hlt2
      have HSTS := Lib.hid hsts
      have HBW := Lib.hid hbw
      have hwp : IntKind.i64.wrap ((k : Int) + 1) = (k : Int) + 1 := by rw [IntKind.wrap_i64]; omega
      have htn : ((k : Int) + 1).toNat = k + 1 := by omega
      have hb1 : (k : Int) + 1 ≤ (body.length : Int) := by omega
      have hb0 : (0 : Int) ≤ (k : Int) + 1 := by omega
      clear hnw hlt1 hlt2 hsts hbw
      go_wp2
      go_region_law (first
        | (refine step_append_own (by rfl) _ _ _ (by rfl) wr.heap.size 9 i0 _ 1 16 Try.underlying34 hi0 hz0 hz1 hz2 rfl (by omega) _ 0 [] (by rfl) HO1.out ⟨b, off, none⟩ k c ((body.take k).map Value.string) (by rfl) HL1.out (HNT.out _ HW1.out) (strs_one _) (by unfold maxLen; omega) (by omega) (by simp) ?_; intro v1 w1 hown1 hg1 _; have B1 := below_first hg1; have HW2 : Hid (∀ i (h : i < body.length), w1.cell? ⟨b, off + i, none⟩ = some (.string body[i])) := Lib.hid (fun i hi => (B1.cell (p := ⟨b, off + i, none⟩) (by show b < wr.heap.size; omega)).trans (HCC.out i hi)); have zz1 := B1.size; clear hg1)
        | (refine step_append_own (by rfl) _ _ _ (by rfl) wr.heap.size 9 i0 _ 1 16 Try.underlying34 hi0 hz0 hz1 hz2 rfl (by omega) v1 (0 + k) ([] ++ (body.take k).map Value.string) (by rfl) hown1 ad (body.length - (k + 1)) (c - (k + 1)) ((body.drop (k + 1)).map Value.string) (by rfl) HL2.out (HNW.out _ HW2.out) (strs_one _) (by unfold maxLen; omega) (by omega) (by omega) ?_; intro v2 w2 hown2 hg2 _))
      all_goals
        have S2 : Sts w2 wr.heap.size v2 (restL body k) := by
          unfold Sts
          have e : (restL body k).length = 0 + k + (body.length - (k + 1)) := by unfold restL; rw [List.length_append, List.length_take, List.length_drop]; omega
          rw [e]
          unfold restL
          rw [List.map_append]
          simpa using hown2
        have B2 : Below wr.heap.size wr w2 := Tx.below_grown B1 hown1 hg2 zz1 (Nat.le_refl _)
        have B2w := HBW.out.trans (B2.mono hsw)
        have T2 := S2.strs fun s hs => by
          rw [restL_mem] at hs
          obtain ⟨m, hm, _, rfl⟩ := hs
          exact HZ.out _ (List.getElem_mem hm)
        have O2 := HSTS.out.below B2
        obtain ⟨Br, dr, rfl⟩ := S2.shape
        have HT2 := Lib.hid T2
        have HO2 := Lib.hid O2
        have hck2 := (B2w.cell (p := ⟨b, off + k, none⟩) (by show b < _; omega)).trans (by have := HC.out (by omega); obtain ⟨b', off', e, _, _, h⟩ := this; injection e with e; injection e with e1 e2; subst e1 e2; exact h k hlt)
        have hs2 := B2w.size
        have HNU2 := Lib.hid (HX.out.below B2w hh')
        have hsk := HZ.out _ (List.getElem_mem hlt)
        clear hown1 hown2 hg2 S2 T2 O2 hck
        cases hx : headB body[k]
        · have HF := Lib.hid (aloneTo_f (nu := nu) hlt (by rw [hx]; rfl))
          have HX1 := Lib.hid hx
          clear hx
          go_wp2_with fail
          refine (specIsHead_any body[k] _ hsk).mono ?_
          rintro e w8 ⟨rfl, rfl⟩
          rw [HX1.out]
          go_wp2
          go_roundw
          case rel => exact ⟨k + 1, by omega, by go_num, by rw [HF.out]; exact HO2.out, B2w⟩
          case measure => simp [intOf]; omega
        · have HX1 := Lib.hid hx
          cases hy : allB (restL body k) nu false
          · have HF := Lib.hid (aloneTo_f (nu := nu) hlt (by rw [hy, Bool.and_false]))
            have HY := Lib.hid hy
            clear hx hy
            go_wp2_with fail
            refine (specIsHead_any body[k] _ hsk).mono ?_
            rintro e w8 ⟨rfl, rfl⟩
            rw [HX1.out]
            go_wp2_with fail
            refine (specAll_any _ _ (restL body k) nu false _ _ _ _ _ HT2.out HNU2.out).mono ?_
            rintro e w8 ⟨rfl, rfl⟩
            rw [HY.out]
            go_wp2
            go_roundw
            case rel => exact ⟨k + 1, by omega, by go_num, by rw [HF.out]; exact HO2.out, B2w⟩
            case measure => simp [intOf]; omega
          · have HF := Lib.hid (aloneTo_t (nu := nu) hlt hx hy)
            have HY := Lib.hid hy
            clear hx hy
            go_wp2_with fail
            refine (specIsHead_any body[k] _ hsk).mono ?_
            rintro e w8 ⟨rfl, rfl⟩
            rw [HX1.out]
            go_wp2_with fail
            refine (specAll_any _ _ (restL body k) nu false _ _ _ _ _ HT2.out HNU2.out).mono ?_
            rintro e w8 ⟨rfl, rfl⟩
            rw [HY.out]
            go_wp2_with (at_builtin; refine wpList_append_own _ rfl _ _ 34 rfl w.heap.size 9 i0 (.string ByteArray.empty) 1 16 Try.underlying34 hi0 hz0 hz1 hz2 rfl (by decide) _ _ _ rfl (World.ownsRow.alloc HO2.out _) ⟨w2.heap.size, 0, none⟩ 1 1 [.string body[k]] rfl rfl (cell_one_new _ _ _) (one_str _) (by unfold maxLen; omega) (by omega) (by simp; omega) ?_)
            intro v5 w5 hown5 hg5 _
            have s5 : Sts w5 w.heap.size v5 (aloneTo body nu (k + 1)) := by
              rw [HF.out]
              exact Sts.one _ hown5
            have B5 : Below w.heap.size w w5 := Tx.below_grown (B2w.trans ((al1 w2 _).mono B2w.size)) (World.ownsRow.alloc HO2.out _) hg5 (by simp; omega) (Nat.le_refl _)
            clear hown5 hg5
            go_wp2
            go_roundw
            case rel => exact ⟨k + 1, by omega, by go_num, s5, B5⟩
            case measure => simp [intOf]; omega
    · have hks : k = body.length := by omega
      subst hks
      obtain ⟨g, ho, hg⟩ := hsts.own (fun s hs => HZ.out s (aloneTo_mem (Nat.le_refl _) hs))
      clear hsts
      go_wp2
      go_ret
      exact ⟨_, g, rfl, ho, fun hn => by have := hg hn; omega, hbw⟩
end Go.Proofs.Ytcgmnpfeiiomgaa

/- How the model finds whether a head comes to itself alone: what its list holds at each place. -/
namespace Go.Proofs.Ytcgmnpfeiiomgaa
open Go.RowKit

abbrev AftC (rs : List RuleD) (ix : List Nat) (h s : ByteArray) : Prop := Aft rs ix (tkAlone (Com false rs)) h s
theorem aftC_body {rs : List RuleD} {ix : List Nat} {h s : ByteArray} (ha : AftC rs ix h s) : s ∈ rs.flatMap (·.body) := by
  rw [List.mem_flatMap]
  cases ha with
  | one i hi _ _ _ ht => obtain ⟨k, hk, rfl, _⟩ := ht; exact ⟨_, List.getElem_mem hi, List.getElem_mem hk⟩
  | more i hi _ _ _ ht => obtain ⟨k, hk, rfl, _⟩ := ht; exact ⟨_, List.getElem_mem hi, List.getElem_mem hk⟩
structure WayC (rs : List RuleD) (ix : List Nat) (h : ByteArray) (ins : List ByteArray) : Prop where
  nodup : ins.Nodup
  aft : ∀ s ∈ ins, AftC rs ix h s
  no : h ∉ ins
theorem WayC.len {rs : List RuleD} {ix : List Nat} {h : ByteArray} {ins : List ByteArray} (H : WayC rs ix h ins) (R : Rt rs) : ins.length ≤ 100 := by
  have h1 : ins.length ≤ (rs.flatMap (·.body)).length := H.nodup.length_le_of_subset fun s hs => aftC_body (H.aft s hs)
  have h2 := flat_len rs R.len
  have h3 := R.few
  omega
theorem WayC.size {rs : List RuleD} {ix : List Nat} {h : ByteArray} {ins : List ByteArray} (H : WayC rs ix h ins) (R : Rt rs) (hh : headB h = true) : ∀ s ∈ h :: ins, s.size ≤ maxLen := fun s hs => by
  have : s.size ≤ 4 := by
    rw [List.mem_cons] at hs
    rcases hs with rfl | hs
    · exact headB_size hh
    · have := aftC_body (H.aft s hs)
      rw [List.mem_flatMap] at this
      obtain ⟨r, hr, hs⟩ := this
      obtain ⟨i, hi, rfl⟩ := List.getElem_of_mem hr
      have k := R.body i hi s hs
      unfold symOK at k
      rw [Bool.or_eq_true] at k
      rcases k with k | k
      · exact headB_size k
      · exact tokB_size k
  unfold maxLen; omega
/-- at a head all of these rules ahead of the k-th have been gone through -/
def ShutC (rs : List RuleD) (ix : List Nat) (ins : List ByteArray) (t : ByteArray) (k : Nat) : Prop :=
  ∀ p (hp : p < ix.length), p < k → (ruleAt rs ix[p]).head = t → ∀ s, tkAlone (Com false rs) (ruleAt rs ix[p]).body s → headB s = true → s ∈ ins
theorem ShutC.mono {rs : List RuleD} {ix : List Nat} {ins ins' : List ByteArray} {t : ByteArray} {k : Nat} (h : ShutC rs ix ins t k) (hs : ∀ s ∈ ins, s ∈ ins') : ShutC rs ix ins' t k :=
  fun i hi hk he s ht hh => hs s (h i hi hk he s ht hh)
structure OldC (rs : List RuleD) (ix : List Nat) (h : ByteArray) (i : Nat) (ins : List ByteArray) : Prop where
  way : WayC rs ix h ins
  few : i ≤ ins.length + 1
  old : ∀ p, p < i → ∀ u, (h :: ins)[p]? = some u → ShutC rs ix ins u ix.length
structure NowC (rs : List RuleD) (ix : List Nat) (h t : ByteArray) (i k : Nat) (ins : List ByteArray) : Prop where
  way : WayC rs ix h ins
  cur : (h :: ins)[i]? = some t
  old : ∀ p, p < i → ∀ u, (h :: ins)[p]? = some u → ShutC rs ix ins u ix.length
  now : ShutC rs ix ins t k
theorem NowC.lt {rs : List RuleD} {ix : List Nat} {h t : ByteArray} {i k : Nat} {ins : List ByteArray} (H : NowC rs ix h t i k ins) : i < ins.length + 1 := by
  rcases Nat.lt_or_ge i (ins.length + 1) with h1 | h1
  · exact h1
  · have := H.cur
    rw [List.getElem?_eq_none (by simpa using h1)] at this; cases this
theorem OldC.start (rs : List RuleD) (ix : List Nat) (h : ByteArray) : OldC rs ix h 0 [] := ⟨⟨by simp, by simp, by simp⟩, by simp, fun p hp => by omega⟩
theorem OldC.now {rs : List RuleD} {ix : List Nat} {h : ByteArray} {i : Nat} {ins : List ByteArray} (H : OldC rs ix h i ins) {t : ByteArray} (ht : (h :: ins)[i]? = some t) : NowC rs ix h t i 0 ins :=
  ⟨H.way, ht, H.old, fun i _ h => by omega⟩
theorem NowC.done {rs : List RuleD} {ix : List Nat} {h t : ByteArray} {i : Nat} {ins : List ByteArray} (H : NowC rs ix h t i ix.length ins) : OldC rs ix h (i + 1) ins := by
  refine ⟨H.way, by have := H.lt; omega, fun p hp u hu => ?_⟩
  by_cases e : p = i
  · subst e
    have := H.cur
    rw [hu] at this
    injection this with this
    subst this
    exact H.now
  · exact H.old p (by omega) u hu
theorem NowC.next {rs : List RuleD} {ix : List Nat} {h t : ByteArray} {i k : Nat} {ins : List ByteArray} (H : NowC rs ix h t i k ins) (hn : ∀ hk : k < ix.length, (ruleAt rs ix[k]).head = t → ∀ s, tkAlone (Com false rs) (ruleAt rs ix[k]).body s → headB s = true → s ∈ ins) : NowC rs ix h t i (k + 1) ins := by
  refine ⟨H.way, H.cur, H.old, fun j hj hjk => ?_⟩
  by_cases e : j = k
  · subst e; exact hn hj
  · exact H.now j hj (by omega)
theorem NowC.aft {rs : List RuleD} {ix : List Nat} {h t : ByteArray} {i k : Nat} {ins : List ByteArray} (H : NowC rs ix h t i k ins) (hk : k < ix.length) (hl : ix[k] < rs.length) (he : (ruleAt rs ix[k]).head = t) {s : ByteArray} (hs : tkAlone (Com false rs) (ruleAt rs ix[k]).body s) : AftC rs ix h s := by
  rw [ruleAt_eq hl] at he hs
  refine Aft.step hl (List.getElem_mem hk) ?_ hs
  have h1 := List.mem_of_getElem? H.cur
  rw [List.mem_cons] at h1
  rw [he]
  rcases h1 with h1 | h1
  · exact .inl h1
  · exact .inr (H.way.aft t h1)
theorem NowC.add {rs : List RuleD} {ix : List Nat} {h t : ByteArray} {i k : Nat} {ins : List ByteArray} (H : NowC rs ix h t i k ins) {s : ByteArray} (ha : AftC rs ix h s) (hno : inB (h :: ins) s = false) : NowC rs ix h t i k (ins ++ [s]) := by
  have hlt := H.lt
  have hnot : s ∉ h :: ins := fun hm => by rw [(inB_iff _ _).2 hm] at hno; cases hno
  have hat : ∀ p, p ≤ i → (h :: (ins ++ [s]))[p]? = (h :: ins)[p]? := fun p hp => by
    rw [← List.cons_append, List.getElem?_append_left (by simp; omega)]
  have hsub : ∀ u ∈ ins, u ∈ ins ++ [s] := fun u hs => List.mem_append_left _ hs
  refine ⟨⟨?_, ?_, ?_⟩, by rw [hat i (Nat.le_refl _)]; exact H.cur, fun p hp u hu => ?_, H.now.mono hsub⟩
  · rw [List.nodup_append]
    refine ⟨H.way.nodup, by simp, fun a hm b hb e => ?_⟩
    rw [List.mem_singleton] at hb
    subst hb e
    exact hnot (List.mem_cons_of_mem _ hm)
  · intro u hu
    rw [List.mem_append, List.mem_singleton] at hu
    rcases hu with hu | rfl
    · exact H.way.aft u hu
    · exact ha
  · intro hm
    rw [List.mem_append, List.mem_singleton] at hm
    rcases hm with hm | rfl
    · exact H.way.no hm
    · exact hnot (by simp)
  · rw [hat p (by omega)] at hu
    exact (H.old p hp u hu).mono hsub
theorem OldC.out {rs : List RuleD} {ix : List Nat} {h : ByteArray} {i : Nat} {ins : List ByteArray} (H : OldC rs ix h i ins) (R : Rt rs) (hh : headB h = true) (hi : i = ins.length + 1) : ¬ AftC rs ix h h := by
  have shut : ∀ t ∈ h :: ins, ShutC rs ix ins t ix.length := fun t ht => by
    obtain ⟨p, hp, e⟩ := List.getElem_of_mem ht
    exact H.old p (by simp at hp; omega) t (by rw [List.getElem?_eq_getElem hp, e])
  have key : ∀ s, AftC rs ix h s → headB s = true → s ∈ ins := by
    intro s ha
    induction ha with
    | one j hj hx he s ht =>
      intro hs
      obtain ⟨p, hp, rfl⟩ := List.getElem_of_mem hx
      refine shut h (by simp) p hp hp (by rw [ruleAt_eq hj]; exact he) s (by rw [ruleAt_eq hj]; exact ht) hs
    | more j hj hx ha s ht ih =>
      intro hs
      obtain ⟨p, hp, rfl⟩ := List.getElem_of_mem hx
      exact shut _ (List.mem_cons_of_mem _ (ih (R.head _ hj))) p hp hp (by rw [ruleAt_eq hj]) s (by rw [ruleAt_eq hj]; exact ht) hs
  intro ha
  exact H.way.no (key h ha hh)
end Go.Proofs.Ytcgmnpfeiiomgaa
