import Derived.Test.YtiochjagolijfaaJRnx
import Derived.Test.YtiochjagolijfaaRnm
import Derived.Deep.LoopGhost
import Derived.Deep.RegionLaw
import Derived.Test.YtiochjagolijfaaJShr
import Derived.Test.YtiochjagolijfaaNums
/- byHead, of the program. -/
namespace Go.Proofs.Ytiochjagolijfaa
open Go.RowKit

set_option maxRecDepth 100000 in
set_option maxHeartbeats 4000000 in
theorem byHead_any (v : Value) (ms : List MadeD) (lo hi : Nat) (w : World) (h : DM true w lo hi v ms) (hhi : hi ≤ w.heap.size) (hn : ms.length ≤ 1048576) :
    Calls Try.prog 42 #[v] w fun e w' => ∃ f, e = .returned (.map (some w.heap.size)) ∧ ByH w' w.heap.size w.heap.size ms f ∧ Below w.heap.size w w' := by
  obtain ⟨i0, hi0, hz0, hz1, hz2⟩ := info_parts Try.infoMadeR
  obtain ⟨A, c, rfl, hlc, hc, hcell⟩ := h
  have HC := Lib.hid hcell
  unfold maxLen at hc
  clear hcell
  have HM0 := Lib.hid (And.intro (ByH.made w) (al1 w (.map #[] 0)))
  have hmm := @run_makeMap Try.prog
  go_enter Try.func42, Try.ntmps42
  go_wp2
  clear hmm
  go_loopg [5, 9] ms.length (fun gk _ v9 wr => ∃ (k : Nat) (f : HdF), v9 = .int .i64 k ∧ k ≤ ms.length ∧ ByH wr w.heap.size w.heap.size (ms.take k) f ∧ Below w.heap.size w wr ∧ gk = ms.length - k)
  case atStart => exact ⟨0, _, rfl, by omega, HM0.out.1, HM0.out.2, by simp⟩
  case round =>
    obtain ⟨k, f, rfl, hk, hB, hbw, rfl⟩ := hrel
    have hzw := hbw.size
    by_cases hkm : k < ms.length
    · obtain ⟨b, off, rfl, _, hbh, _, hcc⟩ := HC.out (by omega)
      obtain ⟨hhs, htop, hc0, u, x, hc1, hc2, hc3, hc4, hst, hkm'⟩ := hcc k hkm
      have k0 := (hbw.cell (p := ⟨b, off + k * 5, none⟩) (by show b < _; omega)).trans hc0
      have k1 := (hbw.cell (p := ⟨b, off + k * 5 + 1, none⟩) (by show b < _; omega)).trans hc1
      have k2 := (hbw.cell (p := ⟨b, off + k * 5 + 2, none⟩) (by show b < _; omega)).trans hc2
      have k3 := (hbw.cell (p := ⟨b, off + k * 5 + 3, none⟩) (by show b < _; omega)).trans hc3
      have k4 := (hbw.cell (p := ⟨b, off + k * 5 + 4, none⟩) (by show b < _; omega)).trans hc4
      obtain ⟨Au, cu, rfl, -⟩ := id hst
      obtain ⟨Ax, cx, Ux, rfl, -⟩ := id hkm'.parts
      have ha := al1 wr (.cells #[.string ms[k].head, .slice Au ms[k].body.length cu, .int .i64 ms[k].term.kind, .int .i64 ms[k].term.num, .slice Ax ms[k].term.kids.length cx] 67)
      have R0 := Row.made wr 67 #[.string ms[k].head, .slice Au ms[k].body.length cu, .int .i64 ms[k].term.kind, .int .i64 ms[k].term.num, .slice Ax ms[k].term.kids.length cx]
      have HBA := Lib.hid (hbw.trans (ha.mono hzw))
      have HHA := Lib.hid (hB.below hzw ha)
      have HLT : Hid (∀ g, (valH f ms[k].head).ownBlock = some g → g ≠ wr.heap.size) := Lib.hid (fun g hg => by have := ((hB.look hhs).own g hg).2.1; omega)
      have HST := Lib.hid (hst.below HBA.out hhi)
      have HKM := Lib.hid (hkm'.keep (Keeps.below HBA.out hhi))
      have HR0 := Lib.hid R0
      have HBK : Hid (b < w.heap.size) := Lib.hid (by omega)
      have hxz : (wr.alloc (.cells #[.string ms[k].head, .slice Au ms[k].body.length cu, .int .i64 ms[k].term.kind, .int .i64 ms[k].term.num, .slice Ax ms[k].term.kids.length cx] 67)).heap.size = wr.heap.size + 1 := by simp
      have HXZ := Lib.hid hxz
      clear hxz R0 ha hcc hc0 hc1 hc2 hc3 hc4 hst hkm' hbw hB
      go_wp2
      generalize wr.alloc (.cells #[.string ms[k].head, .slice Au ms[k].body.length cu, .int .i64 ms[k].term.kind, .int .i64 ms[k].term.num, .slice Ax ms[k].term.kids.length cx] 67) = wx at HBA HHA HST HKM HR0 HXZ ⊢
      clear k0 k1 k2 k3 k4
      generalize hp : wr.heap.size = p at HR0 HXZ HLT hzw ⊢
      have hxz := HXZ.out
      have HHD := Lib.hid (HHA.out.below (by omega) ((Below.refl wx.heap.size wx).drew))
      have ad := al1 wx.drew (.cells #[.string ms[k].head, .slice Au ms[k].body.length cu, .int .i64 ms[k].term.kind, .int .i64 ms[k].term.num, .slice Ax ms[k].term.kids.length cx] 67)
      have HHE := Lib.hid (HHD.out.below (by show w.heap.size ≤ wx.heap.size; omega) ad)
      have HA1 := Lib.hid (HHD.out.look hhs)
      have HA2 := Lib.hid (HHE.out.look hhs)
      have l1 := HA1.out.run
      have l2 : (Instr.lookup 78 (.map (some w.heap.size)) (.string ms[k].head) false).run Try.prog (wx.alloc (.cells #[.string ms[k].head, .slice Au ms[k].body.length cu, .int .i64 ms[k].term.kind, .int .i64 ms[k].term.num, .slice Ax ms[k].term.kids.length cx] 67)).drew = .ok (valH f ms[k].head) (wx.alloc (.cells #[.string ms[k].head, .slice Au ms[k].body.length cu, .int .i64 ms[k].term.kind, .int .i64 ms[k].term.num, .slice Ax ms[k].term.kids.length cx] 67)).drew := HA2.out.run
      have RD : Row wx.drew p 67 #[.string ms[k].head, .slice Au ms[k].body.length cu, .int .i64 ms[k].term.kind, .int .i64 ms[k].term.num, .slice Ax ms[k].term.kids.length cx] := HR0.out
      have a0 := RD.cell 0
      have a1 := RD.cell 1
      have a2 := RD.cell 2
      have a3 := RD.cell 3
      have a4 := RD.cell 4
      simp at a0 a1 a2 a3 a4
      have hlx : (xsH f ms[k].head).length ≤ k := by
        have e := congrArg List.length HA1.out.mades
        rw [List.length_map] at e
        have e2 : (ofHead (ms.take k) ms[k].head).length ≤ (ms.take k).length := List.length_filter_le _ _
        rw [List.length_take] at e2
        omega
      have HPUT : Hid (∀ gg capg w6, w6.ownsRow w.heap.size 67 5 (.slice (some ⟨gg, 0, none⟩) ((xsH f ms[k].head).length + 1) capg) ((xsH f ms[k].head).length + 1) (flatD (xsH f ms[k].head) ++ [.string ms[k].head, .slice Au ms[k].body.length cu, .int .i64 ms[k].term.kind, .int .i64 ms[k].term.num, .slice Ax ms[k].term.kids.length cx]) →
          (wx.drew.alloc (.cells #[.string ms[k].head, .slice Au ms[k].body.length cu, .int .i64 ms[k].term.kind, .int .i64 ms[k].term.num, .slice Ax ms[k].term.kids.length cx] 67)).grownBy w6 (valH f ms[k].head).ownBlock → ((valH f ms[k].head).ownBlock = some gg ∨ gg = wx.heap.size + 1) →
          ∃ w7 f', (Instr.mapUpdate 78 (.map (some w.heap.size)) (.string ms[k].head) (.slice (some ⟨gg, 0, none⟩) ((xsH f ms[k].head).length + 1) capg)).run Try.prog w6 = .ok () w7 ∧ ByH w7 w.heap.size w.heap.size (ms.take (k + 1)) f' ∧ Below w.heap.size w w7) := Lib.hid (fun gg capg w6 ho hg hat => by
        have e := HHE.out.put (y := ⟨ms[k], .slice Au ms[k].body.length cu, .slice Ax ms[k].term.kids.length cx, 0, 0, 0, 0⟩) (by have := ad.size; show w.heap.size ≤ _; have : wx.drew.heap.size = wx.heap.size := rfl; omega) (by rw [List.length_take]; omega) hhs HA2.out
          ⟨hhs, htop, ((HST.out.below (Below.refl wx.heap.size wx).drew (by omega)).below ad (by show hi ≤ wx.heap.size; omega)).more (Nat.zero_le _) hhi, ((HKM.out.keep (Keeps.below (Below.refl wx.heap.size wx).drew (by omega))).keep (Keeps.below ad (by show hi ≤ wx.heap.size; omega))).more (Nat.zero_le _) hhi⟩ ho hg (by simpa using hat)
        obtain ⟨w7, h1, h2, h3⟩ := e
        have e2 : ms.take (k + 1) = ms.take k ++ [ms[k]] := List.take_succ_eq_append_getElem hkm
        exact ⟨w7, updH f ms[k].head ⟨xsH f ms[k].head ++ [⟨ms[k], .slice Au ms[k].body.length cu, .slice Ax ms[k].term.kids.length cx, 0, 0, 0, 0⟩], gg, capg⟩, h1, by rw [e2]; exact h2, (HBA.out.trans (((Below.refl wx.heap.size wx).drew.trans ad).mono (by omega))).trans h3⟩)
      have hown2 := HA2.out.grow.row
      have hpx : p < wx.heap.size := by omega
      clear ad
      generalize hvv : valH f ms[k].head = vv at l1 l2 HPUT HLT hown2
      generalize hxx : xsH f ms[k].head = xx at HPUT hown2 hlx
      have HVX := Lib.hid (And.intro hvv hxx)
      clear hvv hxx hxz
      go_region_law (first
        | (refine step_append_lies _ (by rfl) _ _ _ (by rfl) w.heap.size 67 i0 _ 5 80 Try.underlying24 hi0 hz0 hz1 hz2 rfl (by omega) vv xx.length (flatD xx) (by rfl) hown2 ⟨wx.heap.size, 0, none⟩ 1 1 [.string ms[k].head, .slice Au ms[k].body.length cu, .int .i64 ms[k].term.kind, .int .i64 ms[k].term.num, .slice Ax ms[k].term.kids.length cx] (by rfl) (by rfl) (made_news wx.drew _ _ _ _ _) (made_one _ _ _ _ _ _ _ _ _) (by omega) (by unfold maxLen; omega) (by omega) (by have := HXZ.out; simp; omega) (wx.heap.size + 1) (by simp) ?_; intro gg capg w6 hown6 hg6 hat6 hlt6; obtain ⟨w7, f7, hup, FB7⟩ := HPUT.out gg capg w6 hown6 hg6 hat6; have R9 : Row w6 p 67 #[.string ms[k].head, .slice Au ms[k].body.length cu, .int .i64 ms[k].term.kind, .int .i64 ms[k].term.num, .slice Ax ms[k].term.kids.length cx] := (RD.alloc _).same (hg6.block p (by simp; omega) (fun e => HLT.out p e.symm rfl)); have c6 := R9.cell 0; simp at c6))
      all_goals
        have HFB := Lib.hid FB7
        clear FB7 hown6 hg6 hat6 hlt6 R9 c6
        go_wp2
        go_roundg (ms.length - (k + 1))
        case rel => exact ⟨k + 1, f7, by go_num, by omega, HFB.out.1, HFB.out.2, rfl⟩
        case measure => omega
    · have hks : k = ms.length := by omega
      subst hks
      rw [List.take_length] at hB
      have FIN := Lib.hid (And.intro hB hbw)
      clear hB hbw
      go_wp2
      go_ret
      exact ⟨_, rfl, FIN.out⟩
end Go.Proofs.Ytiochjagolijfaa

/- What is reached from a head by Mades, as data, and how a stack of open heads comes to all of it; the clean Mades as those of the fruitful ones that are reached. No program stands in this text. -/
namespace Go.Proofs.Ytiochjagolijfaa
open Go.RowKit

/-- a head is reached from the start by these Mades -/
inductive RchF (fs : List MadeD) (start : ByteArray) : ByteArray → Prop
  | start : RchF fs start start
  | step (m : MadeD) (hm : m ∈ fs) (hr : RchF fs start m.head) (s : ByteArray) (hs : s ∈ m.body) (ht : tokB s = false) : RchF fs start s
theorem mem_fruit {ms : List MadeD} {m : MadeD} : m ∈ fruitOf ms ↔ m ∈ ms ∧ bodyG ms m.body := by
  unfold fruitOf
  rw [List.mem_filter]
  simp
theorem RchF.iff (ms : List MadeD) (start h : ByteArray) : RchF (fruitOf ms) start h ↔ RchM ms start h := by
  constructor
  · intro a
    induction a with
    | start => exact .start
    | step m hm _ s hs ht ih => exact .step m (mem_fruit.1 hm).1 ih (mem_fruit.1 hm).2 s hs ht
  · intro a
    induction a with
    | start => exact .start
    | step m hm _ hb s hs ht ih => exact .step m (mem_fruit.2 ⟨hm, hb⟩) ih s hs ht
open Classical in
/-- of the first k of these, those whose Head is reached -/
noncomputable def reachUp (fs : List MadeD) (start : ByteArray) (k : Nat) : List MadeD := (fs.take k).filter fun m => decide (RchF fs start m.head)
theorem reachUp_zero (fs : List MadeD) (start : ByteArray) : reachUp fs start 0 = [] := by simp [reachUp]
theorem reachUp_len (fs : List MadeD) (start : ByteArray) (k : Nat) : (reachUp fs start k).length ≤ k := by
  unfold reachUp
  exact Nat.le_trans (List.length_filter_le _ _) (by rw [List.length_take]; omega)
theorem reachUp_no {fs : List MadeD} {start : ByteArray} {k : Nat} (h : k < fs.length) (n : ¬ RchF fs start fs[k].head) : reachUp fs start (k + 1) = reachUp fs start k := by
  unfold reachUp
  rw [List.take_succ_eq_append_getElem h, List.filter_append]
  simp [n]
theorem reachUp_yes {fs : List MadeD} {start : ByteArray} {k : Nat} (h : k < fs.length) (n : RchF fs start fs[k].head) : reachUp fs start (k + 1) = reachUp fs start k ++ [fs[k]] := by
  unfold reachUp
  rw [List.take_succ_eq_append_getElem h, List.filter_append]
  simp [n]
open Classical in
theorem clean_reach (ms : List MadeD) (start : ByteArray) : reachUp (fruitOf ms) start (fruitOf ms).length = cleanOf ms start := by
  unfold reachUp
  rw [List.take_length]
  rw [List.filter_congr (q := fun m => decide (RchM ms start m.head)) fun m _ => decide_eq_decide.2 (RchF.iff ms start m.head)]
  unfold fruitOf cleanOf
  rw [List.filter_filter]
  refine List.filter_congr fun m _ => ?_
  by_cases h1 : bodyG ms m.body <;> by_cases h2 : RchM ms start m.head <;> simp [h1, h2]
theorem bulk_fruit (ms : List MadeD) : bulkDs (fruitOf ms) ≤ bulkDs ms := by
  have key : ∀ (p : MadeD → Bool) (l : List MadeD), (l.filter p).length + ((l.filter p).map bulkD).sum ≤ l.length + (l.map bulkD).sum := by
    intro p l
    induction l with
    | nil => simp
    | cons a l ih =>
      rw [List.filter_cons]
      split
      · simp only [List.length_cons, List.map_cons, List.sum_cons]; omega
      · simp only [List.length_cons, List.map_cons, List.sum_cons]; omega
  exact key _ ms

/-- all that the Mades of a head hold is reached -/
def DoneF (fs : List MadeD) (rc : List ByteArray) (h : ByteArray) : Prop := ∀ m ∈ fs, m.head = h → ∀ s ∈ m.body, tokB s = false → s ∈ rc
theorem DoneF.app {fs : List MadeD} {rc : List ByteArray} {h : ByteArray} (d : DoneF fs rc h) (l : List ByteArray) : DoneF fs (rc ++ l) h := fun m hm e s hs ht => List.mem_append_left _ (d m hm e s hs ht)
/-- heads that are reached, and those of them that are still open; t: the one that is gone through -/
structure StkN (fs : List MadeD) (start : ByteArray) (rc op : List ByteArray) (t : ByteArray → Prop) : Prop where
  first : start ∈ rc
  sound : ∀ h ∈ rc, RchF fs start h
  nodup : rc.Nodup
  sub : ∀ h ∈ rc, h = start ∨ ∃ m ∈ fs, h ∈ m.body
  opens : ∀ h ∈ op, h ∈ rc
  done : ∀ h ∈ rc, h ∈ op ∨ t h ∨ DoneF fs rc h
theorem StkN.start (fs : List MadeD) (start : ByteArray) : StkN fs start [start] [start] (fun _ => False) where
  first := by simp
  sound := fun h hh => by rw [List.mem_singleton] at hh; subst hh; exact .start
  nodup := by simp
  sub := fun h hh => .inl (by simpa using hh)
  opens := fun h hh => hh
  done := fun h hh => .inl hh
theorem StkN.pop {fs : List MadeD} {start h : ByteArray} {rc op : List ByteArray} (a : StkN fs start rc (op ++ [h]) (fun _ => False)) : StkN fs start rc op (· = h) where
  first := a.first
  sound := a.sound
  nodup := a.nodup
  sub := a.sub
  opens := fun x hx => a.opens x (List.mem_append_left _ hx)
  done := fun x hx => by
    rcases a.done x hx with h1 | h1 | h1
    · rw [List.mem_append, List.mem_singleton] at h1
      rcases h1 with h1 | h1
      · exact .inl h1
      · exact .inr (.inl h1)
    · exact h1.elim
    · exact .inr (.inr h1)
theorem StkN.push {fs : List MadeD} {start : ByteArray} {rc op : List ByteArray} {t : ByteArray → Prop} (a : StkN fs start rc op t) {m : MadeD} (hm : m ∈ fs) (hr : m.head ∈ rc) {s : ByteArray} (hs : s ∈ m.body) (ht : tokB s = false) (hn : inB rc s = false) : StkN fs start (rc ++ [s]) (op ++ [s]) t where
  first := List.mem_append_left _ a.first
  sound := fun h hh => by
    rw [List.mem_append, List.mem_singleton] at hh
    rcases hh with hh | rfl
    · exact a.sound h hh
    · exact .step m hm (a.sound _ hr) _ hs ht
  nodup := by
    rw [List.nodup_append]
    refine ⟨a.nodup, by simp, fun x hx y hy e => ?_⟩
    rw [List.mem_singleton] at hy
    subst e hy
    rw [(inB_iff _ _).2 hx] at hn
    cases hn
  sub := fun h hh => by
    rw [List.mem_append, List.mem_singleton] at hh
    rcases hh with hh | rfl
    · exact a.sub h hh
    · exact .inr ⟨m, hm, hs⟩
  opens := fun h hh => by
    rw [List.mem_append, List.mem_singleton] at hh ⊢
    rcases hh with hh | rfl
    · exact .inl (a.opens h hh)
    · exact .inr rfl
  done := fun h hh => by
    rw [List.mem_append, List.mem_singleton] at hh
    rcases hh with hh | rfl
    · rcases a.done h hh with h1 | h1 | h1
      · exact .inl (List.mem_append_left _ h1)
      · exact .inr (.inl h1)
      · exact .inr (.inr (h1.app _))
    · exact .inl (by simp)
theorem StkN.shut {fs : List MadeD} {start h : ByteArray} {rc op : List ByteArray} (a : StkN fs start rc op (· = h)) (d : DoneF fs rc h) : StkN fs start rc op (fun _ => False) where
  first := a.first
  sound := a.sound
  nodup := a.nodup
  sub := a.sub
  opens := a.opens
  done := fun x hx => by
    rcases a.done x hx with h1 | h1 | h1
    · exact .inl h1
    · exact .inr (.inr (h1 ▸ d))
    · exact .inr (.inr h1)
theorem StkN.all {fs : List MadeD} {start : ByteArray} {rc : List ByteArray} (a : StkN fs start rc [] (fun _ => False)) (h : ByteArray) : h ∈ rc ↔ RchF fs start h := by
  refine ⟨a.sound h, fun q => ?_⟩
  induction q with
  | start => exact a.first
  | step m hm _ s hs ht ih =>
    rcases a.done _ ih with h1 | h1 | h1
    · cases h1
    · exact h1.elim
    · exact h1 m hm rfl s hs ht
theorem StkN.len {fs : List MadeD} {start : ByteArray} {rc op : List ByteArray} {t : ByteArray → Prop} (a : StkN fs start rc op t) : rc.length ≤ 1 + bulkDs fs := by
  have := nodup_le rc (start :: fs.flatMap (·.body)) a.nodup fun h hh => by
    rcases a.sub h hh with rfl | ⟨m, hm, hb⟩
    · exact List.mem_cons_self
    · exact List.mem_cons_of_mem _ (List.mem_flatMap.2 ⟨m, hm, hb⟩)
  have h2 := flat_len fs
  simp only [List.length_cons] at this
  omega
end Go.Proofs.Ytiochjagolijfaa

/- Sets of texts, of the call's own: map[string]bool, told by the list of those that stand in it, none twice. -/
namespace Go.Proofs.Ytiochjagolijfaa
open Go.RowKit Go.Maps Go.ChangeMaps

def trueD : DataW Unit := .lit (.bool true)
/-- the set of these texts -/
def setD (acc : List ByteArray) : DataW Unit := acc.foldl (fun m s => m.put (symKey s) trueD) (.map [])
theorem setD_snoc (acc : List ByteArray) (s : ByteArray) : setD (acc ++ [s]) = (setD acc).put (symKey s) trueD := by simp [setD, List.foldl_append]
theorem setD_tidy (acc : List ByteArray) : Tidy (setD acc) := by
  have : ∀ (l : List ByteArray) (m : DataW Unit), Tidy m → Tidy (l.foldl (fun m s => m.put (symKey s) trueD) m) := by
    intro l
    induction l with
    | nil => exact fun m h => h
    | cons p l ih => exact fun m h => ih _ (h.put (isKey _) _)
  exact this _ _ tidy_empty
theorem setD_at (acc : List ByteArray) (s : ByteArray) (z : DataW Unit) : (setD acc).atKey (symKey s) z = if inB acc s = true then trueD else z := by
  have key : ∀ r : List ByteArray, (setD r.reverse).atKey (symKey s) z = if inB r.reverse s = true then trueD else z := by
    intro r
    induction r with
    | nil => rfl
    | cons a r ih =>
      rw [List.reverse_cons, setD_snoc]
      by_cases e : s = a
      · subst e
        rw [atKey_put_same (setD_tidy _).isMap (isKey _), if_pos (by simp [inB])]
      · rw [atKey_put_other (sameKey_ne' e), ih, show inB (r.reverse ++ [a]) s = inB r.reverse s by simp [inB, Ne.symm e]]
  have := key acc.reverse
  rwa [List.reverse_reverse] at this
theorem setD_has (acc : List ByteArray) (s : ByteArray) : has (setD acc) (symKey s) = inB acc s := by
  have key : ∀ r : List ByteArray, has (setD r.reverse) (symKey s) = inB r.reverse s := by
    intro r
    induction r with
    | nil => rfl
    | cons a r ih =>
      rw [List.reverse_cons, setD_snoc]
      by_cases e : s = a
      · subst e
        rw [has_put_same (setD_tidy _).isMap (isKey _)]
        simp [inB]
      · rw [has_put_other (sameKey_ne' e), ih]
        simp [inB, Ne.symm e]
  have := key acc.reverse
  rwa [List.reverse_reverse] at this
theorem setD_size (acc : List ByteArray) (hn : acc.Nodup) : size (setD acc) = acc.length := by
  have key : ∀ r : List ByteArray, r.reverse.Nodup → size (setD r.reverse) = r.reverse.length := by
    intro r
    induction r with
    | nil => intro _; rfl
    | cons a r ih =>
      intro hn
      simp only [List.reverse_cons] at hn ⊢
      have hd := (List.nodup_append.1 hn).2.2
      rw [setD_snoc, size_put (setD_tidy _), setD_has, if_neg (by rw [inB_iff]; exact fun hm => hd a hm a (by simp) rfl), ih (List.nodup_append.1 hn).1]
      simp
  have := key acc.reverse
  simp only [List.reverse_reverse] at this
  exact this hn

theorem zeroB (w : World) : (zeroValue 4).run Try.prog w = .ok (.bool false) w := by kernel_rfl
theorem bool_inv {P : Program} {e : TypeId} (he : P.underlying e = some .bool) {v : Value} {x : Bool} {ps : List MemPlace} (h : plainElem (H := Unit) P e v = some (.lit (.bool x), ps)) : v = .bool x := by
  unfold plainElem at h
  rw [he] at h
  cases v <;> simp at h
  rw [h.1]
/-- block b is the set of these texts -/
def SetM (w : World) (b : Nat) (acc : List ByteArray) : Prop := w.ownsMap Try.prog 9 (plainElem Try.prog 4) b acc.length (setD acc)
theorem SetM.lt {w : World} {b : Nat} {acc : List ByteArray} (h : SetM w b acc) : b < w.heap.size := World.ownsMap.lt h
theorem SetM.keep {w w' : World} {b : Nat} {acc : List ByteArray} (h : SetM w b acc) (e : w'.heap[b]? = w.heap[b]?) : SetM w' b acc := by
  obtain ⟨es, clock, h1, h2⟩ := h
  exact ⟨es, clock, e.trans h1, h2⟩
theorem SetM.made (w : World) : SetM (w.alloc (.map #[] 0)) w.heap.size [] := World.ownsMap_made w _ _ _
/-- is it there? -/
theorem SetM.look {w : World} {b : Nat} {acc : List ByteArray} (h : SetM w b acc) {s : ByteArray} (hs : s.size ≤ maxLen) :
    (Instr.lookup 109 (.map (some b)) (.string s) false).run Try.prog w = .ok (.bool (inB acc s)) w := by
  obtain ⟨v, ps, h1, h2⟩ := World.ownsMap.lookup h keyLaw Try.underlying109 (zeroB w) (plainElem_bool Try.underlying4 false) (WideMaps.keyOf_string_mk Try.underlying9 hs)
  have e : (setD acc).atKey (symKey s) (.lit (.bool false)) = .lit (.bool (inB acc s)) := by
    rw [setD_at]
    cases inB acc s <;> rfl
  have h3 : plainElem (H := Unit) Try.prog 4 v = some (.lit (.bool (inB acc s)), ps) := h2.trans (by rw [← e]; rfl)
  rw [h1, bool_inv Try.underlying4 h3]
theorem SetM.len {w : World} {b : Nat} {acc : List ByteArray} (h : SetM w b acc) (hn : acc.Nodup) (ty : TypeId) : (Builtin.len_ #[109] ty #[.map (some b)]).run Try.prog w = .ok (.int .i64 (acc.length : Int)) w := by
  have := World.ownsMap.len h Try.underlying109 ty
  rwa [setD_size acc hn] at this
/-- one more -/
theorem SetM.put {w : World} {b : Nat} {acc : List ByteArray} (h : SetM w b acc) {s : ByteArray} (hn : acc.length < maxLen) (hs : s.size ≤ maxLen) :
    ∃ w', (Instr.mapUpdate 109 (.map (some b)) (.string s) (.bool true)).run Try.prog w = .ok () w' ∧ SetM w' b (acc ++ [s]) ∧ w.grownBy w' (some b) ∧ w'.heap.size = w.heap.size := by
  obtain ⟨w', h1, h2, h3⟩ := World.ownsMap.store h keyLaw Try.underlying109 hn (WideMaps.keyOf_string_mk Try.underlying9 hs) (plainElem_bool Try.underlying4 true)
  refine ⟨w', h1, ?_, h3.grown, ?_⟩
  · unfold SetM
    rw [setD_snoc, List.length_append]
    exact h2
  · obtain ⟨_, _, _, _, _, rfl⟩ := h3
    simp [setBlock]
end Go.Proofs.Ytiochjagolijfaa
