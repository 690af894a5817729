import Derived.Test.YtokdhgocgicdnaaGreatDoorJWd5
import Derived.Deep.RegionHeld3
import Derived.Deep.AppendLies
/- The walk of find. -/
namespace Go.Proofs.YtokdhgocgicdnaaGreatDoor
open Go.RowKit Go.Maps Go.Conc

theorem zeroLooks (w : World) : (zeroValue 184).run Tryz.prog w = .ok (.slice none 0 0) w := by kernel_rfl
section
variable {w w1 : World} {E : Env} {rs : List RuleD} {t : List ByteArray} {M : List WtM} {S : St}
theorem WtM.cells_at {e : WtM} {base : Nat} (h : w.ownsRow base 151 4 e.v e.ls.length (flatL e.ls)) {j : Nat} (hj : j < e.ls.length) :
    w.cell? ⟨e.blk, j * 4, none⟩ = some (.int .i64 (e.ls[j].rule : Int)) ∧ w.cell? ⟨e.blk, j * 4 + 1, none⟩ = some (.int .i64 (e.ls[j].done : Int)) ∧ w.cell? ⟨e.blk, j * 4 + 2, none⟩ = some (.int .i64 (e.ls[j].fr : Int)) ∧ w.cell? ⟨e.blk, j * 4 + 3, none⟩ = some (.int .i64 (e.ls[j].at' : Int)) := by
  obtain ⟨cur, _, h2, _, _, _, h7⟩ := WtM.row_at h
  have cell : ∀ q, q < e.ls.length * 4 → w.cell? ⟨e.blk, q, none⟩ = (flatL e.ls)[q]? := fun q hq => by
    rw [cell_of_row w e.blk q cur _ _ h2, ← h7, List.getElem?_take_of_lt hq, Array.getElem?_toList]
  obtain ⟨f1, f2, f3, f4⟩ := flatL_at e.ls j hj
  exact ⟨(cell _ (by omega)).trans f1, (cell _ (by omega)).trans f2, (cell _ (by omega)).trans f3, (cell _ (by omega)).trans f4⟩
open Classical in
theorem waitF_in (s : Sea w E rs t M S) {e : WtM} (he : e ∈ M) : waitF M (goalK e.head e.fr) = some (rawD e.blk e.ls.length e.cap) := by
  unfold waitF
  cases hf : M.find? fun x => decide (goalK x.head x.fr = goalK e.head e.fr) with
  | none =>
    rw [List.find?_eq_none] at hf
    exact absurd (hf e he) (by simp)
  | some x =>
    have h1 := List.find?_some hf
    have h2 := List.mem_of_find?_eq_some hf
    have kx := (s.rows x h2).2
    have ke := (s.rows e he).2
    obtain ⟨e1, e2⟩ := goalK_inj (h := x.head) (h' := e.head) (i := x.fr) (i' := e.fr) (by unfold maxLen; omega) (by omega) (by unfold maxLen; omega) (by omega) (by simpa using h1)
    have : x = e := by
      have key : ∀ (M : List WtM), M.Pairwise (fun a b => ¬ (a.head = b.head ∧ a.fr = b.fr)) → x ∈ M → e ∈ M → x = e := by
        intro M
        induction M with
        | nil => intro _ h; cases h
        | cons a l ih =>
          intro hp hx he
          rw [List.pairwise_cons] at hp
          rcases List.mem_cons.1 hx with hx | hx <;> rcases List.mem_cons.1 he with he | he
          · rw [hx, he]
          · exact (hp.1 e he ⟨by rw [← hx]; exact e1, by rw [← hx]; exact e2⟩).elim
          · exact (hp.1 x hx ⟨by rw [← he]; exact e1.symm, by rw [← he]; exact e2.symm⟩).elim
          · exact ih hp.2 hx he
      exact key M s.keys h2 he
    subst this
    rfl
open Classical in
theorem waitF_out (s : Sea w E rs t M S) {h : ByteArray} {i : Nat} (hh : h.size ≤ 4) (hi : i ≤ 12) (hn : S.wt h i = []) : waitF M (goalK h i) = none := by
  unfold waitF
  rw [Option.map_eq_none_iff, List.find?_eq_none]
  intro x hx hk
  have kx := (s.rows x hx).2
  obtain ⟨e1, e2⟩ := goalK_inj (h := x.head) (h' := h) (i := x.fr) (i' := i) (by unfold maxLen; omega) (by omega) (by unfold maxLen; omega) (by omega) (by simpa using hk)
  rw [← e1, ← e2, ← kx.1] at hn
  exact kx.2.1 hn
/-- the list of those that wait at a goal -/
theorem Sea.waitRow (s : Sea w E rs t M S) {h : ByteArray} {i : Nat} (hh : h.size ≤ 4) (hi : i ≤ 12) :
    ∃ A c, (Instr.lookup 75 (.map (some E.bw)) (goalV h i) false).run Tryz.prog w = .ok (.slice A (S.wt h i).length c) w ∧ (S.wt h i).length ≤ 20280 ∧ (0 < (S.wt h i).length → ∃ e ∈ M, A = some ⟨e.blk, 0, none⟩ ∧ e.ls = S.wt h i ∧ (S.wt h i).length ≤ c ∧ c ≤ maxLen) := by
  obtain ⟨v, ps, h1, h2⟩ := s.wait.look kGoal Tryz.underlying75 (zeroLooks w) (zd := .nil) (zp := []) rfl (keyGoal (h := h) (i := i) (by unfold maxLen; omega) (by omega))
  by_cases hn : S.wt h i = []
  · rw [waitF_out s hh hi hn] at h2
    obtain rfl := rawE_nil h2
    rw [hn]
    exact ⟨none, 0, h1, by simp, fun h => by simp at h⟩
  · obtain ⟨e, he, rfl, rfl⟩ := s.all h i hn
    rw [waitF_in s he] at h2
    obtain rfl := rawE_inv h2
    obtain ⟨r1, r2, _, r4, _⟩ := s.rows e he
    obtain ⟨cur, _, _, q1, q2, _⟩ := WtM.row_at r1
    rw [← r2]
    have := s.nw_few
    exact ⟨some ⟨e.blk, 0, none⟩, e.cap, h1, by omega, fun _ => ⟨e, he, rfl, rfl, q1, q2⟩⟩
/-- one more piece is found -/
theorem Sea.finds (s : Sea w E rs t M S) {h : ByteArray} {i k : Nat} (hb : headB h = true) (hk : k ≤ t.length) (d : Der (· ∈ rs) t [h] i k) (hn : (h, i, k) ∉ S.found) (hf : S.found.length < S.rc)
    (hmap : MapAt w1 82 boolE E.bf (S.found.length + 1) (memF (S.found.map (fun p => pieceK p.1 p.2.1 p.2.2) ++ [pieceK h i k]))) (hgr : w.grownBy w1 (some E.bf)) : Sea w1 E rs t M { S with found := S.found ++ [(h, i, k)] } := by
  have hbl : ∀ k, k < w.heap.size → k ≠ E.bf → w1.heap[k]? = w.heap[k]? := fun k h0 h1 => hgr.block k h0 (fun e => h1 (by injection e))
  have hne := s.chan_ne
  have hkeep : Keeps 0 E.hi w w1 := fun k _ hk => by
    have := s.low
    have := s.hib
    have := s.base_lt
    exact hbl k (by omega) (by omega)
  obtain ⟨ns, nr, hq⟩ := s.queue
  refine ⟨s.fits, s.inv.find1 hb hk d hn hf, s.rules.keep hkeep, s.text.keep hkeep, s.hib, s.known.keep (hbl _ s.known.lt s.apart.1), ?_, s.wait.keep (hbl _ s.wait.lt (Ne.symm s.apart.2.2)), ⟨ns, nr, (hbl _ s.chan_lt hne.2.1).trans hq⟩, s.room,
    fun e he => ⟨WtM.row_keep (s.rows e he).1 (hbl _ (s.T_lt (.inr (.inr (.inr (.inr ⟨e, he, rfl⟩))))) (s.blk_ne he).2.1), (s.rows e he).2⟩, s.all, s.keys, s.blks, s.low, s.apart⟩
  simpa using hmap
end
theorem Row.six {w : World} {g : Nat} {ty : TypeId} {a b c d e f : Value} (r : Row w g ty #[a, b, c, d, e, f]) : w.cell? ⟨g, 0, none⟩ = some a ∧ w.cell? ⟨g, 1, none⟩ = some b ∧ w.cell? ⟨g, 2, none⟩ = some c ∧ w.cell? ⟨g, 3, none⟩ = some d ∧ w.cell? ⟨g, 4, none⟩ = some e ∧ w.cell? ⟨g, 5, none⟩ = some f :=
  ⟨r.cell 0, r.cell 1, r.cell 2, r.cell 3, r.cell 4, r.cell 5⟩
theorem Row.four {w : World} {g : Nat} {ty : TypeId} {a b c d : Value} (r : Row w g ty #[a, b, c, d]) : w.cell? ⟨g, 0, none⟩ = some a ∧ w.cell? ⟨g, 1, none⟩ = some b ∧ w.cell? ⟨g, 2, none⟩ = some c ∧ w.cell? ⟨g, 3, none⟩ = some d :=
  ⟨r.cell 0, r.cell 1, r.cell 2, r.cell 3⟩
theorem Row.three {w : World} {g : Nat} {ty : TypeId} {a b c : Value} (r : Row w g ty #[a, b, c]) : w.cell? ⟨g, 0, none⟩ = some a ∧ w.cell? ⟨g, 1, none⟩ = some b ∧ w.cell? ⟨g, 2, none⟩ = some c :=
  ⟨r.cell 0, r.cell 1, r.cell 2⟩
theorem goneOn_snoc (S : St) (h : ByteArray) (i k j : Nat) (hj : j < (S.wt h i).length) : ((S.wt h i).take (j + 1)).map (fun l => l.past k) = ((S.wt h i).take j).map (fun l => l.past k) ++ [(S.wt h i)[j].past k] := by
  rw [List.take_succ_eq_append_getElem hj, List.map_append]; rfl

set_option maxRecDepth 100000 in
set_option maxHeartbeats 4000000 in
theorem find_any (E : Env) (rs : List RuleD) (t : List ByteArray) (M : List WtM) (S : St) (h : ByteArray) (i k : Nat) (w : World) (s : Sea w E rs t M S) (hh : headB h = true) (hik : i ≤ k) (hk : k ≤ t.length) (hd : Der (· ∈ rs) t [h] i k) (hf : S.found.length < S.rc) :
    Calls Tryz.prog 93 #[E.v rs.length t.length, pieceV h i k] w fun e w' => e = .returned (.tuple #[]) ∧ Sea w' E rs t M (findS S h i k) ∧ Turn (E.T M) w w' := by
  have hnT : ∀ k, w.heap.size ≤ k → ¬ E.T M k := fun k hk h => by have := s.T_lt h; omega
  have HNT := Lib.hid hnT
  clear hnT
  have h20 := s.fits.few
  have h12 := s.fits.short
  have hz4 := headB_size hh
  have hpk := keyPiece (h := h) (i := i) (k := k) (by unfold maxLen; omega) (by omega) (by omega)
  have hb := al2 w (.cells #[.slice E.A rs.length E.c, .slice E.B t.length E.d, .map (some E.bk), .map (some E.bf), .map (some E.bw), .chan (some E.bq)] 78) (.cells #[.string h, .int .i64 (i : Int), .int .i64 (k : Int)] 82)
  have sb := s.below hb
  by_cases hin : (h, i, k) ∈ S.found
  · have hlk := set_in sb.found kPiece Tryz.underlying74 hpk ((s.isFound hz4 (by omega) (by omega)).2 hin)
    have HF : Hid (findS S h i k = S) := Lib.hid (by unfold findS; rw [if_pos hin])
    have HB := Lib.hid hb
    have HS := Lib.hid sb
    clear hb sb hpk hin s
    unfold pieceV at hlk ⊢
    unfold Env.v
    go_enter Tryz.func93, Tryz.ntmps93
    go_wp2
    (try simp only [Exit.inBlock, Exit.then])
    refine bodyPost_ret (results_none rfl _ _ _) rfl ?_
    exact ⟨rfl, by rw [HF.out]; exact HS.out, Turn.of_below HB.out⟩
  · have hlk := set_out sb.found kPiece Tryz.underlying74 hpk (fun hm => hin ((s.isFound hz4 (by omega) (by omega)).1 hm))
    have hfl : S.found.length ≤ 1000000 := by have := s.inv.fl; have := s.inv.rc; have := s.known_few; have := s.cap_le; omega
    obtain ⟨w1, hup, hmap, hgr, hsz⟩ := set_put sb.found kPiece Tryz.underlying74 (by unfold maxLen; omega) hpk
    have s1 := sb.finds hh hk hd hin hf hmap hgr
    have t1 : Turn (E.T M) _ w1 := Turn.of_grown hgr (.inr (.inl rfl))
    obtain ⟨A2, c2, hlw, hl2, hrow⟩ := s1.waitRow (h := h) (i := i) (by omega) (by omega)
    have HF : Hid (findS S h i k = putAll { S with found := S.found ++ [(h, i, k)] } (goneOn S h i k)) := Lib.hid (by unfold findS; rw [if_neg hin])
    have R0 := t1.row ((Row.made w 78 #[.slice E.A rs.length E.c, .slice E.B t.length E.d, .map (some E.bk), .map (some E.bf), .map (some E.bw), .chan (some E.bq)]).alloc (.cells #[.string h, .int .i64 (i : Int), .int .i64 (k : Int)] 82)) (HNT.out _ (Nat.le_refl _))
    have R1 := t1.row (Row.made1 w (.cells #[.slice E.A rs.length E.c, .slice E.B t.length E.d, .map (some E.bk), .map (some E.bf), .map (some E.bw), .chan (some E.bq)] 78) 82 #[.string h, .int .i64 (i : Int), .int .i64 (k : Int)]) (HNT.out _ (by omega))
    have c0 := R0.cell 0
    have c1 := R0.cell 1
    have c2' := R0.cell 2
    have c3 := R0.cell 3
    have c4 := R0.cell 4
    have c5 := R0.cell 5
    have e0 := R1.cell 0
    have e1 := R1.cell 1
    have e2 := R1.cell 2
    simp at c0 c1 c2' c3 c4 c5 e0 e1 e2
    have l0 := R0.lt
    have l1 := R1.lt
    have HR0 := Lib.hid R0
    have HR1 := Lib.hid R1
    have HS1 := Lib.hid s1
    have HT1 := Lib.hid t1
    have HB := Lib.hid hb
    have HROW := Lib.hid hrow
    have HIN := Lib.hid hin
    have hw1 : w.heap.size + 2 ≤ w1.heap.size := by have := t1.size; simpa using this
    clear hb sb hpk s s1 t1 R0 R1 hrow hmap hgr hsz hin
    unfold pieceV at hlk hup ⊢
    unfold goalV at hlw
    unfold Env.v
    simp only at hl2 hlw
    go_enter Tryz.func93, Tryz.ntmps93
    go_wp2
    go_loopw [5, 22] (fun _ x wr => ∃ j : Nat, j ≤ (S.wt h i).length ∧ x = .int .i64 (j : Int) ∧ Sea wr E rs t M (putAll { S with found := S.found ++ [(h, i, k)] } (((S.wt h i).take j).map fun l => l.past k)) ∧ Turn (E.T M) w1 wr) (fun _ x _ => (S.wt h i).length - (intOf x).toNat)
    case atStart => exact ⟨0, by omega, rfl, HS1.out, Turn.refl _ _⟩
    case round =>
      obtain ⟨j, hj, rfl, sj, tj⟩ := hrel
      rename World => wr
      have HSJ := Lib.hid sj
      have HTJ := Lib.hid tj
      clear sj tj
      by_cases hlt : j < (S.wt h i).length
      · obtain ⟨e, he, rfl, hls, hlc, hcm⟩ := HROW.out (by omega)
        unfold maxLen at hcm
        have hwt := (putAll_rest { S with found := S.found ++ [(h, i, k)] } (((S.wt h i).take j).map fun l => l.past k)).2.2.2
        have hmem : (S.wt h i)[j] ∈ (putAll { S with found := S.found ++ [(h, i, k)] } (((S.wt h i).take j).map fun l => l.past k)).wt h i := by rw [hwt]; exact List.getElem_mem hlt
        have HSP := Lib.hid (HSJ.out.inv.waits hmem hd)
        have hok := (HSJ.out.inv.sound _ (HSJ.out.inv.wait h i _ hmem).1).ok HSJ.out.fits
        obtain ⟨g0, g1, g2, g3⟩ := WtM.cells_at (HSJ.out.rows e he).1 (j := j) (by rw [hls]; exact hlt)
        simp only [hls] at g0 g1 g2 g3
        have hel := HSJ.out.T_lt (.inr (.inr (.inr (.inr ⟨e, he, rfl⟩))))
        have HOK := Lib.hid hok
        have HG := Lib.hid (goneOn_snoc S h i k j hlt)
        have R0 := HTJ.out.row HR0.out (HNT.out _ (Nat.le_refl _))
        have R1 := HTJ.out.row HR1.out (HNT.out _ (by omega))
        obtain ⟨hr1, hr2, hr3, hr4⟩ := hok
        clear hwt hmem
        generalize (S.wt h i)[j] = l at *
        have hbA := al1 wr (.cells #[.int .i64 (l.rule : Int), .int .i64 (l.done : Int), .int .i64 (l.fr : Int), .int .i64 (l.at' : Int)] 151)
        have RA := Row.made wr 151 #[.int .i64 (l.rule : Int), .int .i64 (l.done : Int), .int .i64 (l.fr : Int), .int .i64 (l.at' : Int)]
        have HBA := Lib.hid hbA
        have HSA := Lib.hid (HSJ.out.below hbA)
        have R0A := R0.below hbA R0.lt
        have R1A := R1.below hbA R1.lt
        have hwr := HTJ.out.size
        clear hbA R0 R1
        obtain ⟨a0, a1, a2, a3, a4, a5⟩ := R0A.six
        obtain ⟨b0, b1, b2, b3⟩ := RA.four
        obtain ⟨-, -, p2⟩ := R1A.three
        have l0A := R0A.lt
        have l1A := R1A.lt
        have lA := RA.lt
        have HRA := Lib.hid RA
        have HR0A := Lib.hid R0A
        have HR1A := Lib.hid R1A
        have HNTA : Hid (∀ q, q = w.heap.size ∨ q = w.heap.size + 1 ∨ q = wr.heap.size → ¬ E.T M q) := Lib.hid fun q hq ht => by
          have h1 := HSJ.out.T_lt ht
          rcases hq with rfl | rfl | rfl
          · exact HNT.out _ (Nat.le_refl _) ht
          · exact HNT.out _ (by omega) ht
          · omega
        clear RA R0A R1A c0 c1 c2' c3 c4 c5 e0 e1 e2
        go_wp2
        go_region_held3 (fun w' => w'.cell? ⟨w.heap.size, 0, none⟩ = some (.slice E.A rs.length E.c) ∧ w'.cell? ⟨w.heap.size, 1, none⟩ = some (.slice E.B t.length E.d) ∧ w'.cell? ⟨w.heap.size, 2, none⟩ = some (.map (some E.bk)) ∧ w'.cell? ⟨w.heap.size, 3, none⟩ = some (.map (some E.bf)) ∧ w'.cell? ⟨w.heap.size, 4, none⟩ = some (.map (some E.bw)) ∧ w'.cell? ⟨w.heap.size, 5, none⟩ = some (.chan (some E.bq)) ∧
            w'.cell? ⟨wr.heap.size, 0, none⟩ = some (.int .i64 (l.rule : Int)) ∧ w'.cell? ⟨wr.heap.size, 1, none⟩ = some (.int .i64 (l.done : Int)) ∧ w'.cell? ⟨wr.heap.size, 2, none⟩ = some (.int .i64 (l.fr : Int)) ∧ w'.cell? ⟨wr.heap.size, 3, none⟩ = some (.int .i64 (l.at' : Int)) ∧ w'.cell? ⟨w.heap.size + 1, 2, none⟩ = some (.int .i64 (k : Int)))
          (first | go_keep | exact K6.out | exact K7.out)
          (first
            | (go_at_call 95; refine (past_any l k _ HOK.out).mono ?_; rintro _ w6 ⟨rfl, b6⟩
               have B6 := (Below.refl _ _).drew.trans b6
               have S6 := Lib.hid (HSA.out.below B6)
               have HB6 := Lib.hid B6
               obtain ⟨q0, q1, q2, q3, q4, q5⟩ := (HR0A.out.below B6 HR0A.out.lt).six
               obtain ⟨m0, m1, m2, m3⟩ := (HRA.out.below B6 HRA.out.lt).four
               obtain ⟨-, -, n2⟩ := (HR1A.out.below B6 HR1A.out.lt).three
               have K6 := Lib.hid (And.intro q0 (And.intro q1 (And.intro q2 (And.intro q3 (And.intro q4 (And.intro q5 (And.intro m0 (And.intro m1 (And.intro m2 (And.intro m3 n2))))))))))
               clear B6 b6 q0 q1 q2 q3 q4 q5 m0 m1 m2 m3 n2)
            | (go_at_call 78; refine (put_any E rs t M _ (l.past k) _ S6.out HSP.out).mono ?_; rintro _ w7 ⟨rfl, s7, t7⟩
               have S7 := Lib.hid s7
               have T7 := Lib.hid t7
               obtain ⟨q0, q1, q2, q3, q4, q5⟩ := (t7.row (HR0A.out.below HB6.out HR0A.out.lt) (HNTA.out _ (.inl rfl))).six
               obtain ⟨m0, m1, m2, m3⟩ := (t7.row (HRA.out.below HB6.out HRA.out.lt) (HNTA.out _ (.inr (.inr rfl)))).four
               obtain ⟨-, -, n2⟩ := (t7.row (HR1A.out.below HB6.out HR1A.out.lt) (HNTA.out _ (.inr (.inl rfl)))).three
               have K7 := Lib.hid (And.intro q0 (And.intro q1 (And.intro q2 (And.intro q3 (And.intro q4 (And.intro q5 (And.intro m0 (And.intro m1 (And.intro m2 (And.intro m3 n2))))))))))
               clear s7 t7 q0 q1 q2 q3 q4 q5 m0 m1 m2 m3 n2))
        go_wp2
        go_roundw
        case rel => exact ⟨j + 1, by omega, by go_num, by rw [HG.out, putAll_snoc]; exact S7.out, (HTJ.out.trans (Turn.of_below (HBA.out.trans (HB6.out.mono (by exact HBA.out.size)))) fun _ h => .inl h).trans T7.out fun _ h => .inl h⟩
        case measure => simp [intOf]; omega
      · have hje : j = (S.wt h i).length := by omega
        have HJE := Lib.hid hje
        clear hje
        go_wp2
        go_end0
        refine ⟨rfl, ?_, ((Turn.of_below HB.out).trans HT1.out fun _ h => .inl h).trans HTJ.out fun _ h => .inl h⟩
        have := HSJ.out
        rw [HJE.out, List.take_length] at this
        rw [HF.out]
        exact this
end Go.Proofs.YtokdhgocgicdnaaGreatDoor

/- One more waits: what becomes of the search in memory. -/
namespace Go.Proofs.YtokdhgocgicdnaaGreatDoor
open Go.RowKit Go.Maps Go.Conc

section
variable {w w1 w5 w6 : World} {E : Env} {rs : List RuleD} {t : List ByteArray} {M : List WtM} {S : St}
/-- the list that stands at a goal, as a value -/
def WaitsAt (M : List WtM) (S : St) (h : ByteArray) (i : Nat) (v : Value) : Prop := (v = .slice none 0 0 ∧ S.wt h i = []) ∨ ∃ e ∈ M, e.head = h ∧ e.fr = i ∧ v = e.v
theorem Sea.waitsAt (s : Sea w E rs t M S) {h : ByteArray} {i : Nat} (hh : h.size ≤ 4) (hi : i ≤ 12) {v : Value} {ps : List MemPlace} (hv : rawE v = some ((waitF M (goalK h i)).getD .nil, ps)) : WaitsAt M S h i v := by
  by_cases hn : S.wt h i = []
  · rw [waitF_out s hh hi hn] at hv
    exact .inl ⟨rawE_nil hv, hn⟩
  · obtain ⟨e, he, rfl, rfl⟩ := s.all h i hn
    rw [waitF_in s he] at hv
    exact .inr ⟨e, he, rfl, rfl, rawE_inv hv⟩
theorem Sea.waitsOwn (s : Sea w E rs t M S) {h : ByteArray} {i : Nat} {v : Value} (hv : WaitsAt M S h i v) : w.ownsRow E.base 151 4 v (S.wt h i).length (flatL (S.wt h i)) ∧ (S.wt h i).length ≤ S.nw ∧ ∀ g, v.ownBlock = some g → E.T M g ∧ E.bw ≠ g := by
  rcases hv with ⟨rfl, hn⟩ | ⟨e, he, rfl, rfl, rfl⟩
  · rw [hn]
    exact ⟨World.ownsRow_nil _ _ _ _, Nat.zero_le _, fun g h => by simp [Value.ownBlock] at h⟩
  · obtain ⟨r1, r2, _, r4, _⟩ := s.rows e he
    rw [← r2]
    refine ⟨r1, r4, fun g hg => ?_⟩
    have : e.blk = g := by simpa [WtM.v, Value.ownBlock] using hg
    subst this
    exact ⟨.inr (.inr (.inr (.inr ⟨e, he, rfl⟩))), Ne.symm (s.blk_ne he).2.2.1⟩
theorem pair_of {M : List WtM} {p : WtM → WtM → Prop} (hs : ∀ a b, p a b → p b a) (h : M.Pairwise p) {a b : WtM} (ha : a ∈ M) (hb : b ∈ M) (hne : a ≠ b) : p a b := by
  induction M with
  | nil => cases ha
  | cons x l ih =>
    rw [List.pairwise_cons] at h
    rcases List.mem_cons.1 ha with ha | ha <;> rcases List.mem_cons.1 hb with hb | hb
    · exact absurd (ha.trans hb.symm) hne
    · rw [ha]; exact h.1 b hb
    · rw [hb]; exact hs _ _ (h.1 a ha)
    · exact ih h.2 ha hb
theorem Sea.joins (s : Sea w E rs t M S) {l : Look} {h : ByteArray} (hl : l ∈ S.known) (hb : headB h = true) (hd : (ruleAt rs l.rule).body[l.done]? = some h) (hn : S.nw < S.rc) {v : Value} (hv : WaitsAt M S h l.at' v)
    (hg1 : w.grownBy w1 (some E.bw)) (hz1 : w1.heap.size = w.heap.size) (hg5 : w1.grownBy w5 v.ownBlock) {g cap : Nat} (hown : w5.ownsRow E.base 151 4 (.slice (some ⟨g, 0, none⟩) ((S.wt h l.at').length + 1) cap) ((S.wt h l.at').length + 1) (flatL (S.wt h l.at') ++ [.int .i64 (l.rule : Int), .int .i64 (l.done : Int), .int .i64 (l.fr : Int), .int .i64 (l.at' : Int)]))
    (hat : v.ownBlock = some g ∨ g = w.heap.size) (hmap : MapAt w6 122 rawE E.bw (S.nw + 1) (putF (waitF M) (goalK h l.at') (rawD g ((S.wt h l.at').length + 1) cap))) (hg6 : w5.grownBy w6 (some E.bw)) :
    SeaTo w w6 E rs t M (joinW S l h) := by
  obtain ⟨_, o2, o3⟩ := s.waitsOwn hv
  have hnew : ∀ k, k < w.heap.size → k ≠ E.bw → v.ownBlock ≠ some k → w6.heap[k]? = w.heap[k]? := fun k h0 h1 h2 => by
    have z1 := hg1.size
    have z5 := hg5.size
    exact ((hg6.block k (by omega) (fun e => h1 (by injection e))).trans (hg5.block k (by omega) (fun e => h2 e.symm))).trans (hg1.block k h0 (fun e => h1 (by injection e)))
  have hTv : ∀ k, ¬ E.T M k → k ≠ E.bw ∧ v.ownBlock ≠ some k := fun k hk => ⟨fun e => hk (e ▸ .inr (.inr (.inl rfl))), fun e => hk (o3 k e).1⟩
  have hkeep : Keeps 0 E.hi w w6 := fun k _ hk => by
    have h1 := s.hib
    have h2 := s.base_lt
    have hT : ¬ E.T M k := fun ht => by have := s.T_low ht; omega
    exact hnew k (by omega) (hTv k hT).1 (hTv k hT).2
  have hownT : ∀ k, v.ownBlock = some k → ∃ e ∈ M, e.head = h ∧ e.fr = l.at' ∧ e.blk = k := fun k hk => by
    rcases hv with ⟨rfl, _⟩ | ⟨e, he, h1, h2, rfl⟩
    · simp [Value.ownBlock] at hk
    · exact ⟨e, he, h1, h2, by simpa [WtM.v, Value.ownBlock] using hk⟩
  have hmapsNot : ∀ k, (k = E.bk ∨ k = E.bf ∨ k = E.bq) → v.ownBlock ≠ some k := fun k hk hv' => by
    obtain ⟨e, he, _, _, rfl⟩ := hownT k hv'
    have := s.blk_ne he
    rcases hk with hk | hk | hk
    · exact this.1 hk
    · exact this.2.1 hk
    · exact this.2.2.2 hk
  obtain ⟨ns, nr, hq⟩ := s.queue
  have hsnd := s.inv.sound l hl
  have hfit := hsnd.fit
  have h12 := s.fits.short
  have hz4 := headB_size hb
  refine ⟨putM M ⟨h, l.at', S.wt h l.at' ++ [l], g, cap⟩, ⟨s.fits, s.inv.join hl hb hd hn, s.rules.keep hkeep, s.text.keep hkeep, s.hib, s.known.keep (hnew _ s.known.lt s.apart.2.1 (hmapsNot _ (.inl rfl))), s.found.keep (hnew _ s.found.lt s.apart.2.2 (hmapsNot _ (.inr (.inl rfl)))), ?_,
    ⟨ns, nr, (hnew _ s.chan_lt s.chan_ne.2.2 (hmapsNot _ (.inr (.inr rfl)))).trans hq⟩, s.room, ?_, ?_, ?_, ?_, s.low, s.apart⟩, ?_, ?_⟩
  · refine hmap.like fun q => ?_
    have hM : ∀ x ∈ M, x.ok := fun x hx => by
      have := (s.rows x hx).2
      exact ⟨by unfold maxLen; omega, by omega⟩
    have he : WtM.ok ⟨h, l.at', S.wt h l.at' ++ [l], g, cap⟩ := ⟨by show h.size ≤ maxLen; unfold maxLen; omega, by show l.at' ≤ 1000; omega⟩
    rw [waitF_put hM he]
    simp
  · intro x hx
    rcases putM_mem.1 hx with ⟨hx, hne⟩ | rfl
    · obtain ⟨r1, r2, r3, r4, r5⟩ := s.rows x hx
      have hT := s.T_lt (k := x.blk) (.inr (.inr (.inr (.inr ⟨x, hx, rfl⟩))))
      refine ⟨WtM.row_keep r1 (hnew _ hT (s.blk_ne hx).2.2.1 fun ho => ?_), ?_, r3, by show _ ≤ S.nw + 1; omega, r5⟩
      · obtain ⟨e, he, h1, h2, h3⟩ := hownT _ ho
        have hxe : x ≠ e := fun e' => hne ⟨by rw [e']; exact h1, by rw [e']; exact h2⟩
        exact pair_of (fun _ _ h => Ne.symm h) s.blks hx he hxe h3.symm
      · simp only [joinW]
        rw [if_neg (by simpa using hne)]
        exact r2
    · refine ⟨?_, by simp [joinW], by simp, by show _ ≤ S.nw + 1; simp; omega, hz4, by show l.at' ≤ 12; omega⟩
      have hlen : (S.wt h l.at' ++ [l]).length = (S.wt h l.at').length + 1 := by simp
      simp only [WtM.v]
      rw [flatL_snoc, hlen]
      rcases hown.2 with ⟨h1, _⟩ | ⟨g', cap', cur, h1, h2, h3, h4, h5, h6, h7⟩
      · simp at h1
      · simp only [Value.slice.injEq, Option.some.injEq, Addr.mk.injEq, and_true, true_and] at h1
        obtain ⟨rfl, rfl⟩ := h1
        refine ⟨hown.1, .inr ⟨g, cap, cur, rfl, h2, ?_, h4, h5, h6, h7⟩⟩
        have hgl : g < w5.heap.size := (Array.getElem?_eq_some_iff.1 h3).1
        refine (hg6.block g hgl fun e => ?_).trans h3
        injection e with e
        rcases hat with hat | hat
        · exact (o3 g hat).2 e.symm
        · have := s.wait.lt
          omega
  · intro h' i' hne
    by_cases e : h' = h ∧ i' = l.at'
    · obtain ⟨rfl, rfl⟩ := e
      exact ⟨_, putM_mem.2 (.inr rfl), rfl, rfl⟩
    · simp only [joinW, if_neg e] at hne
      obtain ⟨x, hx, rfl, rfl⟩ := s.all h' i' hne
      exact ⟨x, putM_mem.2 (.inl ⟨hx, e⟩), rfl, rfl⟩
  · unfold putM
    rw [List.pairwise_append]
    refine ⟨s.keys.sublist List.filter_sublist, by simp, fun a ha b hb => ?_⟩
    rw [List.mem_singleton] at hb
    subst hb
    have := (List.mem_filter.1 ha).2
    rw [Bool.not_eq_true', decide_eq_false_iff_not] at this
    exact this
  · unfold putM
    rw [List.pairwise_append]
    refine ⟨s.blks.sublist List.filter_sublist, by simp, fun a ha b hb => ?_⟩
    rw [List.mem_singleton] at hb
    subst hb
    obtain ⟨ha1, ha2⟩ := List.mem_filter.1 ha
    rcases hat with hat | hat
    · obtain ⟨e, he, h1, h2, h3⟩ := hownT _ hat
      have hne : a ≠ e := fun e' => by subst e'; simp [h1, h2] at ha2
      show a.blk ≠ g
      rw [← h3]
      exact pair_of (fun _ _ h => Ne.symm h) s.blks ha1 he hne
    · have := s.T_lt (k := a.blk) (.inr (.inr (.inr (.inr ⟨a, ha1, rfl⟩))))
      show a.blk ≠ g
      omega
  · have z1 := hg1.size
    have z5 := hg5.size
    have z6 := hg6.size
    exact ⟨hg6.os.trans (hg5.os.trans hg1.os), hg6.tape.trans (hg5.tape.trans hg1.tape), hg6.output.trans (hg5.output.trans hg1.output), by omega, fun k hk hT => hnew k hk (hTv k hT).1 (hTv k hT).2⟩
  · rintro k (hk | hk | hk | hk | ⟨x, hx, rfl⟩)
    · exact .inl (.inl hk)
    · exact .inl (.inr (.inl hk))
    · exact .inl (.inr (.inr (.inl hk)))
    · exact .inl (.inr (.inr (.inr (.inl hk))))
    · rcases putM_mem.1 hx with ⟨hx, _⟩ | rfl
      · exact .inl (.inr (.inr (.inr (.inr ⟨x, hx, rfl⟩))))
      · show E.T M g ∨ _ ≤ g
        rcases hat with hat | hat
        · exact .inl (o3 g hat).1
        · exact .inr (by omega)
end
end Go.Proofs.YtokdhgocgicdnaaGreatDoor
