import Derived.Test.YtokdhgocgicdnaaGreatDoorJUseW
import Derived.Test.YtokdhgocgicdnaaGreatDoorJSetG
import Derived.Test.YtokdhgocgicdnaaGreatDoorJEar
import Derived.Test.YtokdhgocgicdnaaGreatDoorJHeadsS
/- The walks of fruitful's question and useful's, of fruitful and of useful. -/
namespace Go.Proofs.YtokdhgocgicdnaaGreatDoor
open Go.RowKit

def notProd (m : Nat) (r : RuleN) : Bool := !holdsB m (joinAll r.body)
def notReached (m : Nat) (r : RuleN) : Bool := !holdsB m r.head

set_option maxRecDepth 100000 in
set_option maxHeartbeats 1000000 in
theorem useful1_any (u : Value) (r : RuleN) (hi m q : Nat) (w : World) (h : BitsAt w hi u r.body) (hh : hi ≤ w.heap.size) (hq : Row w q 144 #[.int .u32 (m : Int)]) (hm : m < 4194304) :
    Calls Tryz.prog 90 #[.agg #[.int .i64 (r.num : Int), .int .u32 (r.head : Int), u], .pointer (some ⟨q, 0, none⟩)] w fun e w' => e = .returned (.bool (notProd m r)) ∧ Below w.heap.size w w' := by
  have HV := Lib.hid h
  obtain ⟨A, c, rfl, -, -, hz, -⟩ := h
  have hjl := joinAll_lt hz
  clear hz
  have hb := al1 w (.cells #[.int .i64 (r.num : Int), .int .u32 (r.head : Int), .slice A r.body.length c] 147)
  have R1 := Row.made w 147 #[.int .i64 (r.num : Int), .int .u32 (r.head : Int), .slice A r.body.length c]
  have hsz : (w.alloc (.cells #[.int .i64 (r.num : Int), .int .u32 (r.head : Int), .slice A r.body.length c] 147)).heap.size = w.heap.size + 1 := by simp
  go_enter Tryz.func90, Tryz.ntmps90
  go_wp2
  generalize w.alloc (.cells #[.int .i64 (r.num : Int), .int .u32 (r.head : Int), .slice A r.body.length c] 147) = wA at *
  have cq := (hq.below hb hq.lt).cell 0
  have r2 := R1.cell 2
  simp at cq r2
  have hlq := hq.lt
  have hlA := R1.lt
  have HSZ := Lib.hid hsz
  have HB0 : Hid (BitsAt wA.drew hi (.slice A r.body.length c) r.body) := Lib.hid (HV.out.below hb.drew hh)
  clear hsz R1 hq
  go_region_held3 (fun w' => w'.cell? ⟨q, 0, none⟩ = some (.int .u32 (m : Int)) ∧ w'.cell? ⟨w.heap.size, 2, none⟩ = some (.slice A r.body.length c))
    (first | go_keep | (refine ⟨?_, ?_⟩ <;> assumption))
    (first
      | (go_at_call 92; refine (wholeBody_any _ r.body hi wA.drew HB0.out).mono ?_; rintro e w6 ⟨rfl, rfl⟩)
      | (go_at_call 91; refine (holds_any m (joinAll r.body) _ hm hjl).mono ?_; rintro e w7 ⟨rfl, rfl⟩))
  go_wp2
  go_ret
  exact ⟨rfl, hb.drew⟩

theorem keepN_sub {p : RuleN → Bool} {rl : List RuleN} {r : RuleN} (h : r ∈ keepN p rl) : r ∈ rl := (List.mem_filter.1 h).1
theorem keepN_len' (p : RuleN → Bool) (rl : List RuleN) : (keepN p rl).length ≤ rl.length := List.length_filter_le _ _
/-- what useful leaves of a grammar of sets -/
def UseAt (rl rl' : List RuleN) : Prop := ∃ m1 m2 : Nat, FixAt (stepCome rl) (tokBase true) m1 ∧ FixAt (stepAfter (keepN (notProd m1) rl) 1 joinAll) 0 m2 ∧ rl' = keepN (notReached (1 ||| m2)) (keepN (notProd m1) rl)

set_option maxRecDepth 100000 in
set_option maxHeartbeats 2000000 in
theorem fruitful_any (hs : List ByteArray) (rl : List RuleN) (v : Value) (hi : Nat) (w : World) (h : SetsG w hi v hs rl) (hh : hi ≤ w.heap.size) (hl20 : rl.length ≤ 20) (hrl : ∀ r ∈ rl, r.head < 4194304) :
    Calls Tryz.prog 76 #[v] w fun e w' => ∃ x m1, e = .returned x ∧ SetsX w' w.heap.size hi x hs (keepN (notProd m1) rl) ∧ FixAt (stepCome rl) (tokBase true) m1 ∧ Below w.heap.size w w' := by
  have hmf : ∀ (fn : Fn) (first cap : Array Value) (w : World), (Instr.makeFunc fn first cap).run Tryz.prog w = .ok (.func fn first cap) w := fun _ _ _ _ => rfl
  have HV := Lib.hid h
  have HRL := Lib.hid hrl
  obtain ⟨A, c, B, d, rfl, -, -⟩ := h.form
  have hb := al2 w (.cells #[.slice A hs.length c, .slice B rl.length d] 140) (.cells #[.slice none 0 0, .slice none 0 0] 140)
  have R0 := (Row.made w 140 #[.slice A hs.length c, .slice B rl.length d]).alloc (.cells #[.slice none 0 0, .slice none 0 0] 140)
  have R1 := Row.made1 w (.cells #[.slice A hs.length c, .slice B rl.length d] 140) 140 #[.slice none 0 0, .slice none 0 0]
  clear h hrl
  go_enter Tryz.func76, Tryz.ntmps76
  go_wp2_with fail
  refine (productive_any hs rl _ hi _ (HV.out.below hb hh) (by simp; omega) HRL.out).mono ?_
  rintro e w1 ⟨m1, rfl, hfix1, b1⟩
  have hb1 := hb.trans (b1.mono (by simp; omega))
  have z1 : w.heap.size + 2 ≤ w1.heap.size := by have := b1.size; simpa using this
  have RR0 := (R0.below b1 (by simp; omega)).alloc (.cells #[.int .u32 (m1 : Int)] 144)
  have RR1 := (R1.below b1 (by simp)).alloc (.cells #[.int .u32 (m1 : Int)] 144)
  have RQ := Row.made w1 144 #[.int .u32 (m1 : Int)]
  have hm1 := hfix1.1
  have a1 := al1 w1 (.cells #[.int .u32 (m1 : Int)] 144)
  have hb2 := hb1.trans (a1.mono hb1.size)
  have d0 := RR0.cell 0
  have d1 := RR0.cell 1
  simp at d0 d1
  have hl0 := RR0.lt
  have hsz : (w1.alloc (.cells #[.int .u32 (m1 : Int)] 144)).heap.size = w1.heap.size + 1 := by simp
  have HT1 : Hid (TestsRule 90 #[.pointer (some ⟨w1.heap.size, 0, none⟩)] (notProd m1) (w1.alloc (.cells #[.int .u32 (m1 : Int)] 144))) := Lib.hid fun W u r hi hB hh _ bW => useful1_any u r hi m1 w1.heap.size W hB hh (RQ.below bW (by omega)) hm1
  clear R0 R1 b1 hb RQ
  have HSZ := Lib.hid hsz
  clear hsz
  go_wp2_with fail
  refine (without_any hs rl _ hi hi _ _ (enters_of Tryz.func90 (by kernel_rfl) rfl) (notProd m1) _ ((HV.out.below hb2 hh).i (by rw [HSZ.out]; omega)) (by rw [HSZ.out]; omega) (by rw [HSZ.out]; omega) hl20 HT1.out).mono ?_
  rintro e w7 ⟨x, rfl, SX7, b7⟩
  have hb7 := hb2.trans (b7.mono (by rw [HSZ.out]; omega))
  have z7 : w1.heap.size + 1 ≤ w7.heap.size := by have := b7.size; rw [HSZ.out] at this; exact this
  have R71 := RR1.below b7 RR1.lt
  clear b7 RR0 RR1 d0 d1 a1 hl0
  obtain ⟨A7, c7, B7, d7, e7, -, -⟩ := SX7.i
  subst e7
  have i0 := R71.cell 0
  have i1 := R71.cell 1
  have k0 := R71.free 0
  have k1 := R71.free 1
  simp at i0 i1
  have h71 := R71.lt
  have RA : Row (w7.setCell ⟨w.heap.size + 1, 0, none⟩ (.slice A7 hs.length c7)) (w.heap.size + 1) 140 #[.slice A7 hs.length c7, .slice none 0 0] := by simpa using R71.put 0 (.slice A7 hs.length c7)
  have SY := (SX7.away (p := ⟨w.heap.size + 1, 0, none⟩) R71 (by show hi ≤ w.heap.size + 1; omega) (.slice A7 hs.length c7)).away (p := ⟨w.heap.size + 1, 1, none⟩) RA (by show hi ≤ w.heap.size + 1; omega) (.slice B7 (keepN (notProd m1) rl).length d7)
  have BB := (hb7.setCell (p := ⟨w.heap.size + 1, 0, none⟩) (by show w.heap.size ≤ w.heap.size + 1; omega) (.slice A7 hs.length c7)).setCell (p := ⟨w.heap.size + 1, 1, none⟩) (by show w.heap.size ≤ w.heap.size + 1; omega) (.slice B7 (keepN (notProd m1) rl).length d7)
  have HFIN := Lib.hid (And.intro (SY.lower (base' := w.heap.size) (by rw [HSZ.out]; omega)) BB)
  clear SX7 SY BB RA R71
  go_wp2
  exact bodyPost_ret (v := .agg #[.slice A7 hs.length c7, .slice B7 (keepN (notProd m1) rl).length d7]) (by simp [results, Tryz.results76, go_sem, i0, i1]) rfl ⟨_, m1, rfl, HFIN.out.1, hfix1, HFIN.out.2⟩

end Go.Proofs.YtokdhgocgicdnaaGreatDoor

/- The walks of past and put. -/
namespace Go.Proofs.YtokdhgocgicdnaaGreatDoor
open Go.RowKit Go.Maps Go.Conc

set_option maxRecDepth 100000 in
set_option maxHeartbeats 1000000 in
theorem past_any (l : Look) (k : Nat) (w : World) (h : l.ok) :
    Calls Tryz.prog 95 #[lookV l, .int .i64 (k : Int)] w fun e w' => e = .returned (lookV (l.past k)) ∧ Below w.heap.size w w' := by
  obtain ⟨h1, h2, h3, h4⟩ := h
  unfold lookV
  go_enter Tryz.func95, Tryz.ntmps95
  go_wp2
  refine bodyPost_ret (v := .agg #[.int .i64 (l.rule : Int), .int .i64 ((l.done : Int) + 1), .int .i64 (l.fr : Int), .int .i64 (k : Int)]) (by simp [results, Tryz.results95, go_sem]) rfl ⟨?_, ?_⟩
  · rfl
  · exact al2 _ _ _

/-- one more look is known, and lies in the queue -/
theorem Sea.grow {w w1 : World} {E : Env} {rs : List RuleD} {t : List ByteArray} {M : List WtM} {S : St} {l : Look} (s : Sea w E rs t M S) (hl : Sound rs t l) (hin : l ∉ S.known) {ns nr : Nat}
    (hmap : MapAt w1 151 boolE E.bk (S.known.length + 1) (memF (S.known.map lookK ++ [lookK l]))) (hgr : w.grownBy w1 (some E.bk)) (hs : w1.heap.size = w.heap.size) :
    Sea (w1.setChan E.bq E.cap (((S.known.drop S.rc).map lookV).toArray.push (lookV l)) false (ns + 1) nr false) E rs t M { S with known := S.known ++ [l] } := by
  have hb : ∀ k, k < w.heap.size → k ≠ E.bk → k ≠ E.bq → (w1.setChan E.bq E.cap (((S.known.drop S.rc).map lookV).toArray.push (lookV l)) false (ns + 1) nr false).heap[k]? = w.heap[k]? := fun k h0 h1 h2 => by
    refine Eq.trans ?_ (hgr.block k h0 (fun e => h1 (by injection e)))
    simp only [World.setChan]; rw [Array.getElem?_setIfInBounds_ne (Ne.symm h2)]
  have hne := s.chan_ne
  have hkeep : Keeps 0 E.hi w (w1.setChan E.bq E.cap (((S.known.drop S.rc).map lookV).toArray.push (lookV l)) false (ns + 1) nr false) := fun k _ hk => by
    have := s.low
    have := s.hib
    have := s.base_lt
    exact hb k (by omega) (by omega) (by omega)
  have hI : Inv rs t { S with known := S.known ++ [l] } := by have := s.inv.put hl; rwa [putS_out hin] at this
  refine ⟨s.fits, hI, s.rules.keep hkeep, s.text.keep hkeep, s.hib, ?_, s.found.keep (hb _ s.found.lt (Ne.symm s.apart.1) (Ne.symm hne.2.1)), s.wait.keep (hb _ s.wait.lt (Ne.symm s.apart.2.1) (Ne.symm hne.2.2)), ⟨ns + 1, nr, ?_⟩, s.room,
    fun e he => ⟨WtM.row_keep (s.rows e he).1 (hb _ (s.T_lt (.inr (.inr (.inr (.inr ⟨e, he, rfl⟩))))) (s.blk_ne he).1 (s.blk_ne he).2.2.2), (s.rows e he).2⟩, s.all, s.keys, s.blks, s.low, s.apart⟩
  · have : MapAt w1 151 boolE E.bk (S.known ++ [l]).length (memF ((S.known ++ [l]).map lookK)) := by
      rw [List.map_append, List.length_append]; exact hmap
    refine this.keep ?_
    simp only [World.setChan]; rw [Array.getElem?_setIfInBounds_ne hne.1]
  · rw [heap_setChan _ _ _ _ _ _ _ _ (by rw [hs]; exact s.chan_lt)]
    congr 2
    simp only
    rw [List.drop_append_of_le_length s.inv.rc, List.map_append]
    simp

/-- put, of a look that is known -/
theorem put_old (E : Env) (rs : List RuleD) (t : List ByteArray) (M : List WtM) (S : St) (l : Look) (w : World) (s : Sea w E rs t M S) (hl : Sound rs t l) (hin : l ∈ S.known) :
    Calls Tryz.prog 78 #[E.v rs.length t.length, lookV l] w fun e w' => e = .returned (.tuple #[]) ∧ Below w.heap.size w w' := by
  have hb := al2 w (.cells #[.slice E.A rs.length E.c, .slice E.B t.length E.d, .map (some E.bk), .map (some E.bf), .map (some E.bw), .chan (some E.bq)] 78) (.cells #[.int .i64 (l.rule : Int), .int .i64 (l.done : Int), .int .i64 (l.fr : Int), .int .i64 (l.at' : Int)] 151)
  have hlk := set_in (s.below hb).known kLook Tryz.underlying73 (keyLook (hl.ok s.fits)) ((s.isKnown hl).2 hin)
  have HB := Lib.hid hb
  clear hb
  unfold lookV at hlk ⊢
  unfold Env.v
  go_enter Tryz.func78, Tryz.ntmps78
  go_wp2
  go_end0
  exact ⟨rfl, HB.out⟩

set_option maxRecDepth 100000 in
set_option maxHeartbeats 1000000 in
/-- put, of a new one -/
theorem put_new (E : Env) (rs : List RuleD) (t : List ByteArray) (M : List WtM) (S : St) (l : Look) (w : World) (s : Sea w E rs t M S) (hl : Sound rs t l) (hin : l ∉ S.known) :
    Calls Tryz.prog 78 #[E.v rs.length t.length, lookV l] w fun e w' => e = .returned (.tuple #[]) ∧ Sea w' E rs t M { S with known := S.known ++ [l] } ∧ Turn (E.T M) w w' := by
  have hb := al2 w (.cells #[.slice E.A rs.length E.c, .slice E.B t.length E.d, .map (some E.bk), .map (some E.bf), .map (some E.bw), .chan (some E.bq)] 78) (.cells #[.int .i64 (l.rule : Int), .int .i64 (l.done : Int), .int .i64 (l.fr : Int), .int .i64 (l.at' : Int)] 151)
  have R0 := (Row.made w 78 #[.slice E.A rs.length E.c, .slice E.B t.length E.d, .map (some E.bk), .map (some E.bf), .map (some E.bw), .chan (some E.bq)]).alloc (.cells #[.int .i64 (l.rule : Int), .int .i64 (l.done : Int), .int .i64 (l.fr : Int), .int .i64 (l.at' : Int)] 151)
  have R1 := Row.made1 w (.cells #[.slice E.A rs.length E.c, .slice E.B t.length E.d, .map (some E.bk), .map (some E.bf), .map (some E.bw), .chan (some E.bq)] 78) 151 #[.int .i64 (l.rule : Int), .int .i64 (l.done : Int), .int .i64 (l.fr : Int), .int .i64 (l.at' : Int)]
  have sb := s.below hb
  have hnT : ∀ k, w.heap.size ≤ k → ¬ E.T M k := fun k hk h => by have := s.T_lt h; omega
  have hlk := set_out sb.known kLook Tryz.underlying73 (keyLook (hl.ok s.fits)) (fun h => hin ((s.isKnown hl).1 h))
  have hkf := s.known_few
  have hcl := s.cap_le
  obtain ⟨w1, hup, hmap, hgr, hsz⟩ := set_put sb.known kLook Tryz.underlying73 (by unfold maxLen; omega) (keyLook (hl.ok s.fits))
  have t1 : Turn (E.T M) _ w1 := Turn.of_grown hgr (.inl rfl)
  have r0 := t1.row R0 (hnT _ (Nat.le_refl _))
  have r1 := t1.row R1 (hnT _ (by omega))
  obtain ⟨ns, nr, hq⟩ := sb.queue
  have hq1 : w1.heap[E.bq]? = some (.chan E.cap ((S.known.drop S.rc).map lookV).toArray false ns nr false) := by
    refine (hgr.block _ sb.chan_lt fun e => ?_).trans hq
    injection e with e
    exact sb.chan_ne.1 e
  have c2 := r0.cell 2
  have c5 := r0.cell 5
  have d0 := r1.cell 0
  have d1 := r1.cell 1
  have d2 := r1.cell 2
  have d3 := r1.cell 3
  simp at c2 c5 d0 d1 d2 d3
  unfold lookV at hlk hup ⊢
  unfold Env.v
  have h0 := r0.lt
  have h1 := r1.lt
  have HQ := Lib.hid hq1
  have HM := Lib.hid hmap
  have HT := Lib.hid t1
  have HB := Lib.hid hb
  have HS := Lib.hid sb
  have HSZ := Lib.hid hsz
  have HGR := Lib.hid hgr
  clear hq1 hmap t1 hb sb hq hgr r0 r1 R0 R1 hsz
  refine NWp.calls Tryz.func78 rfl ?_
  simp only [Tryz.ntmps78, List.size_toArray, List.length_cons, List.length_nil, Nat.reduceAdd, Nat.reduceSub, Array.replicate_succ, Array.replicate_zero, List.push_toArray, List.append_toArray, List.nil_append, List.cons_append]
  refine NWp.seq (NWp.of_wp ?_)
  go_wp2
  refine NWp.seq (NWp.of_wp ?_)
  go_wp2
  refine NWp.cond (t := true) rfl ?_
  simp only [if_true]
  refine NWp.seq (NWp.of_wp ?_)
  go_wp2
  refine NWp.region ?_
  simp only [List.size_toArray, List.length_cons, List.length_nil, Nat.reduceAdd, List.range, List.range.loop]
  refine Left.val_k rfl rfl (fun K hK => ?_); go_simp; refine hK _ _ ?_; clear hK K
  refine Left.val_k rfl rfl (fun K hK => ?_); go_simp; refine hK _ _ ?_; clear hK K
  refine Left.val_k rfl rfl (fun K hK => ?_); go_simp; refine hK _ _ ?_; clear hK K
  refine Left.send (c := E.bq) (v := .agg #[.int .i64 (l.rule : Int), .int .i64 (l.done : Int), .int .i64 (l.fr : Int), .int .i64 (l.at' : Int)]) (z := .tuple #[]) rfl rfl rfl HQ.out (by simp; have := looks_few (putS_nodup HS.out.inv.nodup l) (HS.out.inv.put hl).sound; rw [putS_out hin, ← HS.out.room] at this; simp at this; have := HS.out.inv.rc; omega) ?_
  refine Left.nil ?_
  exact ⟨rfl, .tuple #[], by simp [results, Tryz.results78, go_sem], rfl, HS.out.grow hl hin HM.out HGR.out HSZ.out, ((Turn.of_below HB.out).trans HT.out fun _ h => .inl h).trans (Turn.setChan _ _ _ _ _ _ _ _ (.inr (.inr (.inr (.inl rfl))))) fun _ h => .inl h⟩

/-- put -/
theorem put_any (E : Env) (rs : List RuleD) (t : List ByteArray) (M : List WtM) (S : St) (l : Look) (w : World) (s : Sea w E rs t M S) (hl : Sound rs t l) :
    Calls Tryz.prog 78 #[E.v rs.length t.length, lookV l] w fun e w' => e = .returned (.tuple #[]) ∧ Sea w' E rs t M (putS S l) ∧ Turn (E.T M) w w' := by
  by_cases hin : l ∈ S.known
  · rw [putS_in hin]
    exact (put_old E rs t M S l w s hl hin).mono fun e w' ⟨h1, h2⟩ => ⟨h1, s.below h2, Turn.of_below h2⟩
  · rw [putS_out hin]
    exact put_new E rs t M S l w s hl hin
end Go.Proofs.YtokdhgocgicdnaaGreatDoor

/- The walk of ask. -/
namespace Go.Proofs.YtokdhgocgicdnaaGreatDoor
open Go.RowKit Go.Maps Go.Conc

/-- what a rule reads as, at its place -/
theorem Rules.at {w : World} {lo hi : Nat} {A : Option Addr} {c : Nat} {rs : List RuleD} (h : Rules w lo hi (.slice A rs.length c) rs) {j : Nat} (hj : j < rs.length) : ∃ b off, A = some ⟨b, off, none⟩ ∧ b < hi ∧ rs.length ≤ c ∧ c ≤ maxLen ∧ rs[j].head.size ≤ maxLen ∧ w.cell? ⟨b, off + j * 2, none⟩ = some (.string rs[j].head) ∧
    ∃ B d, w.cell? ⟨b, off + j * 2 + 1, none⟩ = some (.slice B rs[j].body.length d) ∧ Strs w lo hi (.slice B rs[j].body.length d) rs[j].body := by
  obtain ⟨A', c', e, h1, h2, h3⟩ := h
  injection e with e1 _ e2
  subst e1 e2
  obtain ⟨b, off, rfl, _, h5, h6⟩ := h3 (by omega)
  obtain ⟨h7, h8, u, h9, h10⟩ := h6 j hj
  have h10' := h10
  obtain ⟨B, d, rfl, _⟩ := h10
  exact ⟨b, off, rfl, h5, h1, h2, h7, h8, B, d, h9, h10'⟩

set_option maxRecDepth 100000 in
set_option maxHeartbeats 2000000 in
theorem ask_any (E : Env) (rs : List RuleD) (t : List ByteArray) (M : List WtM) (S : St) (h : ByteArray) (i : Nat) (w : World) (s : Sea w E rs t M S) (hi : i ≤ t.length) :
    Calls Tryz.prog 65 #[E.v rs.length t.length, goalV h i] w fun e w' => e = .returned (.tuple #[]) ∧ Sea w' E rs t M (askS rs S h i) ∧ Turn (E.T M) w w' := by
  have hnT : ∀ k, w.heap.size ≤ k → ¬ E.T M k := fun k hk h => by have := s.T_lt h; omega
  have HNT := Lib.hid hnT
  clear hnT
  have h20 := s.fits.few
  have h12 := s.fits.short
  obtain ⟨A, c, B, d, lim, base, bk, bf, bw, bq, cap⟩ := E
  unfold goalV askS asks
  simp only [Env.v]
  have hb := al2 w (.cells #[.slice A rs.length c, .slice B t.length d, .map (some bk), .map (some bf), .map (some bw), .chan (some bq)] 78) (.cells #[.string h, .int .i64 (i : Int)] 122)
  have R0 := (Row.made w 78 #[.slice A rs.length c, .slice B t.length d, .map (some bk), .map (some bf), .map (some bw), .chan (some bq)]).alloc (.cells #[.string h, .int .i64 (i : Int)] 122)
  have R1 := Row.made1 w (.cells #[.slice A rs.length c, .slice B t.length d, .map (some bk), .map (some bf), .map (some bw), .chan (some bq)] 78) 122 #[.string h, .int .i64 (i : Int)]
  have sb := s.below hb
  have HB := Lib.hid hb
  have HS := Lib.hid sb
  have HR0 := Lib.hid R0
  have HR1 := Lib.hid R1
  have hsz : ((w.alloc (.cells #[.slice A rs.length c, .slice B t.length d, .map (some bk), .map (some bf), .map (some bw), .chan (some bq)] 78)).alloc (.cells #[.string h, .int .i64 (i : Int)] 122)).heap.size = w.heap.size + 2 := by simp
  have HSZ := Lib.hid hsz
  clear hb sb R0 R1 s hsz
  go_enter Tryz.func65, Tryz.ntmps65
  go_wp2
  go_loopw [4, 5, 9] (fun _ _ x wr => ∃ j : Nat, j ≤ rs.length ∧ x = .int .i64 (j : Int) ∧ Sea wr ⟨A, c, B, d, lim, base, bk, bf, bw, bq, cap⟩ rs t M (putAll S (asksTo rs h i j)) ∧ Turn (Env.T ⟨A, c, B, d, lim, base, bk, bf, bw, bq, cap⟩ M) ((w.alloc (.cells #[.slice A rs.length c, .slice B t.length d, .map (some bk), .map (some bf), .map (some bw), .chan (some bq)] 78)).alloc (.cells #[.string h, .int .i64 (i : Int)] 122)) wr) (fun _ _ x _ => rs.length - (intOf x).toNat)
  case atStart => exact ⟨0, by omega, rfl, HS.out, Turn.refl _ _⟩
  case round =>
    obtain ⟨j, hj, rfl, sj, tj⟩ := hrel
    rename World => wr
    have HSJ := Lib.hid sj
    have HTJ := Lib.hid tj
    have R0 := tj.row HR0.out (HNT.out _ (Nat.le_refl _))
    have R1 := tj.row HR1.out (HNT.out _ (by omega))
    have hz := tj.size
    rw [HSZ.out] at hz
    by_cases hlt : j < rs.length
    · obtain ⟨b, off, rfl, hbh, hlc, hcm, hsm, k0, B2, d2, k1, hst⟩ := sj.rules.at hlt
      unfold maxLen at hcm
      have hbw : b < wr.heap.size := by have := sj.base_lt; have := sj.hib; simp only at *; omega
      have c0 := R0.cell 0
      have c1 := R0.cell 1
      have c2 := R0.cell 2
      have c3 := R0.cell 3
      have c4 := R0.cell 4
      have c5 := R0.cell 5
      have e0 := R1.cell 0
      have e1 := R1.cell 1
      simp at c0 c1 c2 c3 c4 c5 e0 e1
      have l0 := R0.lt
      have l1 := R1.lt
      clear sj tj R0 R1 hst
      by_cases he : rs[j].head = h
      · have d1 : (rs[j].head.toList == h.toList) = true := by rw [list_eqH, decide_eq_true he]
        have HA := Lib.hid (asksTo_t (i := i) hlt he)
        have hb1 := al1 wr (.cells #[.string rs[j].head, .slice B2 rs[j].body.length d2] 45)
        have HB1 := Lib.hid hb1
        have HSL := Lib.hid (Sound.new (t := t) hlt hi)
        clear he hb1
        go_wp2_with fail
        refine (put_any ⟨some ⟨b, off, none⟩, c, B, d, lim, base, bk, bf, bw, bq, cap⟩ rs t M _ ⟨j, 0, i, i⟩ _ (HSJ.out.below HB1.out) HSL.out).mono ?_
        rintro e w8 ⟨rfl, s8, t8⟩
        have HS8 := Lib.hid s8
        have HT8 := Lib.hid t8
        clear s8 t8
        go_wp2
        go_roundw
        case rel => exact ⟨j + 1, by omega, by go_num, by rw [HA.out, putAll_snoc]; exact HS8.out, (HTJ.out.trans (Turn.of_below HB1.out) fun _ h => .inl h).trans HT8.out fun _ h => .inl h⟩
        case measure => simp [intOf]; omega
      · have d1 : (rs[j].head.toList == h.toList) = false := by rw [list_eqH, decide_eq_false he]
        have HA := Lib.hid (asksTo_f (i := i) hlt he)
        have hb1 := al1 wr (.cells #[.string rs[j].head, .slice B2 rs[j].body.length d2] 45)
        have HB1 := Lib.hid hb1
        clear he hb1
        go_wp2
        go_roundw
        case rel => exact ⟨j + 1, by omega, by go_num, by rw [HA.out]; exact HSJ.out.below HB1.out, HTJ.out.trans (Turn.of_below HB1.out) fun _ h => .inl h⟩
        case measure => simp [intOf]; omega
    · have hje : j = rs.length := by omega
      have HJE := Lib.hid hje
      clear sj tj hje
      go_wp2
      go_end0
      exact ⟨rfl, by have := HSJ.out; rwa [HJE.out] at this, (Turn.of_below HB.out).trans HTJ.out fun _ h => .inl h⟩
end Go.Proofs.YtokdhgocgicdnaaGreatDoor

/- The draw of a text that a head comes to: l04Word. -/
namespace Go.Proofs.YtokdhgocgicdnaaGreatDoor.Dr
open Go.RowKit
open Go.Proofs.YtokdhgocgicdnaaGreatDoor

theorem Tryz.infoInt : (Tryz.prog.info? 3).map (fun i => (i.zero, i.size, i.bytes)) = some (some (.int .i64 0), 1, 8) := by kernel_rfl
theorem one_int (x : Int) : ∀ u ∈ [Value.int .i64 x], u.oneCell' = true := by
  intro u hu
  rw [List.mem_singleton] at hu; subst hu; rfl
end Go.Proofs.YtokdhgocgicdnaaGreatDoor.Dr
