import Derived.Test.YtiochjagolijfaaNums
import Derived.Test.YtiochjagolijfaaJFixS
import Derived.Deep.LoopGhost
/- Sets of texts, of the call's own: map[string]bool, told by the list of those that stand in it, none twice. -/
namespace Go.Proofs.Ytiochjagolijfaa
open Go.RowKit Go.Maps Go.ChangeMaps

def trueD : DataW Unit := .lit (.bool true)
/-- the set of these texts -/
def setD (acc : List ByteArray) : DataW Unit := acc.foldl (fun m s => m.put (symKey s) trueD) (.map [])
theorem setD_snoc (acc : List ByteArray) (s : ByteArray) : setD (acc ++ [s]) = (setD acc).put (symKey s) trueD := by simp [setD, List.foldl_append]
theorem setD_tidy (acc : List ByteArray) : Tidy (setD acc) := by
  have : ∀ (l : List ByteArray) (m : DataW Unit), Tidy m → Tidy (l.foldl (fun m s => m.put (symKey s) trueD) m) := by
    intro l
    induction l with
    | nil => exact fun m h => h
    | cons p l ih => exact fun m h => ih _ (h.put (isKey _) _)
  exact this _ _ tidy_empty
theorem setD_at (acc : List ByteArray) (s : ByteArray) (z : DataW Unit) : (setD acc).atKey (symKey s) z = if inB acc s = true then trueD else z := by
  have key : ∀ r : List ByteArray, (setD r.reverse).atKey (symKey s) z = if inB r.reverse s = true then trueD else z := by
    intro r
    induction r with
    | nil => rfl
    | cons a r ih =>
      rw [List.reverse_cons, setD_snoc]
      by_cases e : s = a
      · subst e
        rw [atKey_put_same (setD_tidy _).isMap (isKey _), if_pos (by simp [inB])]
      · rw [atKey_put_other (sameKey_ne' e), ih, show inB (r.reverse ++ [a]) s = inB r.reverse s by simp [inB, Ne.symm e]]
  have := key acc.reverse
  rwa [List.reverse_reverse] at this
theorem setD_has (acc : List ByteArray) (s : ByteArray) : has (setD acc) (symKey s) = inB acc s := by
  have key : ∀ r : List ByteArray, has (setD r.reverse) (symKey s) = inB r.reverse s := by
    intro r
    induction r with
    | nil => rfl
    | cons a r ih =>
      rw [List.reverse_cons, setD_snoc]
      by_cases e : s = a
      · subst e
        rw [has_put_same (setD_tidy _).isMap (isKey _)]
        simp [inB]
      · rw [has_put_other (sameKey_ne' e), ih]
        simp [inB, Ne.symm e]
  have := key acc.reverse
  rwa [List.reverse_reverse] at this
theorem setD_size (acc : List ByteArray) (hn : acc.Nodup) : size (setD acc) = acc.length := by
  have key : ∀ r : List ByteArray, r.reverse.Nodup → size (setD r.reverse) = r.reverse.length := by
    intro r
    induction r with
    | nil => intro _; rfl
    | cons a r ih =>
      intro hn
      simp only [List.reverse_cons] at hn ⊢
      have hd := (List.nodup_append.1 hn).2.2
      rw [setD_snoc, size_put (setD_tidy _), setD_has, if_neg (by rw [inB_iff]; exact fun hm => hd a hm a (by simp) rfl), ih (List.nodup_append.1 hn).1]
      simp
  have := key acc.reverse
  simp only [List.reverse_reverse] at this
  exact this hn

theorem zeroB (w : World) : (zeroValue 4).run Try.prog w = .ok (.bool false) w := by kernel_rfl
theorem bool_inv {P : Program} {e : TypeId} (he : P.underlying e = some .bool) {v : Value} {x : Bool} {ps : List MemPlace} (h : plainElem (H := Unit) P e v = some (.lit (.bool x), ps)) : v = .bool x := by
  unfold plainElem at h
  rw [he] at h
  cases v <;> simp at h
  rw [h.1]
/-- block b is the set of these texts -/
def SetM (w : World) (b : Nat) (acc : List ByteArray) : Prop := w.ownsMap Try.prog 9 (plainElem Try.prog 4) b acc.length (setD acc)
theorem SetM.lt {w : World} {b : Nat} {acc : List ByteArray} (h : SetM w b acc) : b < w.heap.size := World.ownsMap.lt h
theorem SetM.keep {w w' : World} {b : Nat} {acc : List ByteArray} (h : SetM w b acc) (e : w'.heap[b]? = w.heap[b]?) : SetM w' b acc := by
  obtain ⟨es, clock, h1, h2⟩ := h
  exact ⟨es, clock, e.trans h1, h2⟩
theorem SetM.made (w : World) : SetM (w.alloc (.map #[] 0)) w.heap.size [] := World.ownsMap_made w _ _ _
/-- is it there? -/
theorem SetM.look {w : World} {b : Nat} {acc : List ByteArray} (h : SetM w b acc) {s : ByteArray} (hs : s.size ≤ maxLen) :
    (Instr.lookup 109 (.map (some b)) (.string s) false).run Try.prog w = .ok (.bool (inB acc s)) w := by
  obtain ⟨v, ps, h1, h2⟩ := World.ownsMap.lookup h keyLaw Try.underlying109 (zeroB w) (plainElem_bool Try.underlying4 false) (WideMaps.keyOf_string_mk Try.underlying9 hs)
  have e : (setD acc).atKey (symKey s) (.lit (.bool false)) = .lit (.bool (inB acc s)) := by
    rw [setD_at]
    cases inB acc s <;> rfl
  have h3 : plainElem (H := Unit) Try.prog 4 v = some (.lit (.bool (inB acc s)), ps) := h2.trans (by rw [← e]; rfl)
  rw [h1, bool_inv Try.underlying4 h3]
theorem SetM.len {w : World} {b : Nat} {acc : List ByteArray} (h : SetM w b acc) (hn : acc.Nodup) (ty : TypeId) : (Builtin.len_ #[109] ty #[.map (some b)]).run Try.prog w = .ok (.int .i64 (acc.length : Int)) w := by
  have := World.ownsMap.len h Try.underlying109 ty
  rwa [setD_size acc hn] at this
/-- one more -/
theorem SetM.put {w : World} {b : Nat} {acc : List ByteArray} (h : SetM w b acc) {s : ByteArray} (hn : acc.length < maxLen) (hs : s.size ≤ maxLen) :
    ∃ w', (Instr.mapUpdate 109 (.map (some b)) (.string s) (.bool true)).run Try.prog w = .ok () w' ∧ SetM w' b (acc ++ [s]) ∧ w.grownBy w' (some b) ∧ w'.heap.size = w.heap.size := by
  obtain ⟨w', h1, h2, h3⟩ := World.ownsMap.store h keyLaw Try.underlying109 hn (WideMaps.keyOf_string_mk Try.underlying9 hs) (plainElem_bool Try.underlying4 true)
  refine ⟨w', h1, ?_, h3.grown, ?_⟩
  · unfold SetM
    rw [setD_snoc, List.length_append]
    exact h2
  · obtain ⟨_, _, _, _, _, rfl⟩ := h3
    simp [setBlock]
end Go.Proofs.Ytiochjagolijfaa

/- allCome, of the program. -/
namespace Go.Proofs.Ytiochjagolijfaa
open Go.RowKit

set_option maxRecDepth 100000 in
set_option maxHeartbeats 2000000 in
theorem allCome_any (v : Value) (body acc : List ByteArray) (b lo hi : Nat) (w : World) (h : Strs w lo hi v body) (hhi : hi ≤ w.heap.size) (hm : SetM w b acc) :
    Calls Try.prog 95 #[v, .map (some b)] w fun e w' => e = .returned (.bool (allB body acc true)) ∧ Below w.heap.size w w' := by
  obtain ⟨A, c, rfl, hlc, hc, hsz, hcell⟩ := h
  unfold maxLen at hc
  have HC := Lib.hid hcell
  have HZ := Lib.hid hsz
  have HM := Lib.hid hm
  have hbl := hm.lt
  clear hcell hsz hm
  go_enter Try.func95, Try.ntmps95
  go_wp2
  go_loopg [6, 9] body.length (fun gk _ v9 wr => ∃ k : Nat, k ≤ body.length ∧ v9 = .int .i64 k ∧ Below w.heap.size w wr ∧ (∀ j (h : j < body.length), j < k → (inB acc body[j] || (true && tokB body[j])) = true) ∧ gk = body.length - k)
  case atStart => exact ⟨0, by omega, rfl, Below.refl _ _, (fun j _ hj => by omega), rfl⟩
  case round =>
    obtain ⟨k, hk, rfl, hbw, hall, rfl⟩ := hrel
    have HA := Lib.hid hall
    have HB := Lib.hid hbw
    have hzw := hbw.size
    clear hall
    by_cases hlt : k < body.length
    · obtain ⟨g, off, rfl, _, hgh, hcc⟩ := HC.out (by omega)
      have hck := (hbw.cell (p := ⟨g, off + k, none⟩) (by show g < _; omega)).trans (hcc k hlt)
      have hks := HZ.out _ (List.getElem_mem hlt)
      have i1 : (k : Int) < (body.length : Int) := by omega
      clear hcc hbw
      cases ht : tokB body[k]
      · have HT := Lib.hid ht
        clear ht
        go_wp2_with fail
        refine (implIsToken_any _ _).mono ?_
        rintro e w1 ⟨rfl, b1⟩
        rw [HT.out]
        have B1 := HB.out.trans (b1.mono hzw)
        have hlk := (HM.out.keep (B1.block b hbl)).look hks
        have HB1 := Lib.hid B1
        clear b1 B1
        cases hi' : inB acc body[k]
        · rw [hi'] at hlk
          have HI := Lib.hid hi'
          clear hi'
          go_wp2
          go_ret
          exact ⟨ret_bool (allB_no hlt (by rw [HI.out, HT.out]; rfl)).symm, HB1.out⟩
        · rw [hi'] at hlk
          have HI := Lib.hid hi'
          clear hi'
          go_wp2
          go_roundg (body.length - (k + 1))
          case rel => exact ⟨k + 1, by omega, by go_num, HB1.out, fun j hj hjk => by
            by_cases e : j = k
            · subst e; rw [HI.out]; rfl
            · exact HA.out j hj (by omega), rfl⟩
          case measure => omega
      · have HT := Lib.hid ht
        clear ht
        go_wp2_with fail
        refine (implIsToken_any _ _).mono ?_
        rintro e w1 ⟨rfl, b1⟩
        rw [HT.out]
        have HB1 := Lib.hid (HB.out.trans (b1.mono hzw))
        clear b1
        go_wp2
        go_roundg (body.length - (k + 1))
        case rel => exact ⟨k + 1, by omega, by go_num, HB1.out, (fun j hj hjk => by
          by_cases e : j = k
          · subst e; rw [HT.out]; simp
          · exact HA.out j hj (by omega)), rfl⟩
        case measure => omega
    · go_wp2
      go_ret
      exact ⟨ret_bool (allB_yes fun k hk => HA.out k hk (by omega)).symm, HB.out⟩
end Go.Proofs.Ytiochjagolijfaa
