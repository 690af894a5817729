/- Symbols numbered in a map, in the order in which they came: as data, and the walks of newSymbolList and number. -/
import Derived.Test.YtlgedjpolmlciaaJOwns
import Derived.WalkKit
import Derived.WalkSpells
import Derived.WalkLawsBesides
import Derived.Maps.OwnSet
import Derived.StringKeys
namespace Go.Proofs.Ytlgedjpolmlciaa
open Go.RowKit Go.Maps

theorem keyLaw : Keyed Try.prog 9 := string_keyed Try.underlying9
theorem zeroInt (w : World) : (zeroValue 3).run Try.prog w = .ok (.int .i64 0) w := by kernel_rfl
def symKey (s : ByteArray) : Lit := .string s.data.toList
def symNum (n : Nat) : DataW Unit := .lit (.int .i64 (n : Int))
/-- the map of the numbers of these symbols -/
def mapD (acc : List ByteArray) : DataW Unit := acc.zipIdx.foldl (fun m p => m.put (symKey p.1) (symNum p.2)) (.map [])
theorem symKey_inj {a b : ByteArray} (h : symKey a = symKey b) : a = b := by
  unfold symKey at h
  injection h with h
  exact ByteArray.ext (Array.ext' h)
theorem mapD_snoc (acc : List ByteArray) (s : ByteArray) : mapD (acc ++ [s]) = (mapD acc).put (symKey s) (symNum acc.length) := by
  unfold mapD
  rw [List.zipIdx_append, List.foldl_append]
  simp
theorem isKey (s : ByteArray) : WideAt.IsKeyLit (symKey s) := trivial
theorem mapD_tidy (acc : List ByteArray) : Tidy (mapD acc) := by
  have : ∀ (l : List (ByteArray × Nat)) (m : DataW Unit), Tidy m → Tidy (l.foldl (fun m p => m.put (symKey p.1) (symNum p.2)) m) := by
    intro l
    induction l with
    | nil => exact fun m h => h
    | cons p l ih => exact fun m h => ih _ (h.put (isKey _) _)
  exact this _ _ tidy_empty
theorem sameKey_ne' {a b : ByteArray} (h : a ≠ b) : symKey a ≠ symKey b := fun e => h (symKey_inj e)
/-- is it among them? -/
def inB (acc : List ByteArray) (s : ByteArray) : Bool := acc.any fun t => decide (t = s)
theorem inB_iff (acc : List ByteArray) (s : ByteArray) : inB acc s = true ↔ s ∈ acc := by simp [inB]
theorem mapD_has (acc : List ByteArray) (s : ByteArray) : has (mapD acc) (symKey s) = inB acc s := by
  have key : ∀ r : List ByteArray, has (mapD r.reverse) (symKey s) = inB r.reverse s := by
    intro r
    induction r with
    | nil => rfl
    | cons a r ih =>
      rw [List.reverse_cons, mapD_snoc]
      by_cases e : s = a
      · subst e
        rw [has_put_same (mapD_tidy _).isMap (isKey _)]
        simp [inB]
      · rw [has_put_other (sameKey_ne' e), ih]
        simp [inB, Ne.symm e]
  have := key acc.reverse
  rwa [List.reverse_reverse] at this
theorem mapD_at (acc : List ByteArray) (hn : acc.Nodup) (i : Nat) (h : i < acc.length) (z : DataW Unit) : (mapD acc).atKey (symKey acc[i]) z = symNum i := by
  have key : ∀ r : List ByteArray, r.reverse.Nodup → ∀ i (h : i < r.reverse.length), (mapD r.reverse).atKey (symKey r.reverse[i]) z = symNum i := by
    intro r
    induction r with
    | nil => intro _ i h; simp at h
    | cons a r ih =>
      intro hn i h
      simp only [List.reverse_cons] at hn h ⊢
      rw [mapD_snoc]
      rcases Nat.lt_or_ge i r.reverse.length with hl | hl
      · have e : (r.reverse ++ [a])[i] = r.reverse[i] := List.getElem_append_left hl
        rw [e]
        have hne : r.reverse[i] ≠ a := by
          intro e2
          have hd := (List.nodup_append.1 hn).2.2
          exact hd _ (List.getElem_mem hl) a (by simp) e2
        rw [atKey_put_other (sameKey_ne' hne), ih (List.nodup_append.1 hn).1 i hl]
      · have hi : i = r.reverse.length := by simp only [List.length_append, List.length_cons, List.length_nil] at h; omega
        subst hi
        have e : (r.reverse ++ [a])[r.reverse.length]'h = a := by simp
        rw [e, atKey_put_same (mapD_tidy _).isMap (isKey _)]
  have := key acc.reverse
  simp only [List.reverse_reverse] at this
  exact this hn i h
theorem mapD_size (acc : List ByteArray) (hn : acc.Nodup) : size (mapD acc) = acc.length := by
  have key : ∀ r : List ByteArray, r.reverse.Nodup → size (mapD r.reverse) = r.reverse.length := by
    intro r
    induction r with
    | nil => intro _; rfl
    | cons a r ih =>
      intro hn
      simp only [List.reverse_cons] at hn ⊢
      have hd := (List.nodup_append.1 hn).2.2
      rw [mapD_snoc, size_put (mapD_tidy _), mapD_has, if_neg (by rw [inB_iff]; exact fun hm => hd a hm a (by simp) rfl), ih (List.nodup_append.1 hn).1]
      simp
  have := key acc.reverse
  simp only [List.reverse_reverse] at this
  exact this hn

/-- block b is the map of these symbols -/
def Nums (w : World) (b : Nat) (acc : List ByteArray) : Prop := w.ownsMap Try.prog 9 (plainElem Try.prog 3) b acc.length (mapD acc)
theorem Nums.lt {w : World} {b : Nat} {acc : List ByteArray} (h : Nums w b acc) : b < w.heap.size := World.ownsMap.lt h
theorem Nums.keep {w w' : World} {b : Nat} {acc : List ByteArray} (h : Nums w b acc) (e : w'.heap[b]? = w.heap[b]?) : Nums w' b acc := by
  obtain ⟨es, clock, h1, h2⟩ := h
  exact ⟨es, clock, e.trans h1, h2⟩
theorem Nums.below {w w' : World} {b B : Nat} {acc : List ByteArray} (h : Nums w b acc) (k : Below B w w') (hb : b < B) : Nums w' b acc := h.keep (k.block b hb)
theorem Nums.made (w : World) : Nums (w.alloc (.map #[] 0)) w.heap.size [] := World.ownsMap_made w _ _ _
/-- one more, if it is not there yet -/
def addSym (acc : List ByteArray) (s : ByteArray) : List ByteArray := if inB acc s = true then acc else acc ++ [s]
theorem addSym_in {acc : List ByteArray} {s : ByteArray} (h : inB acc s = true) : addSym acc s = acc := if_pos h
theorem addSym_out {acc : List ByteArray} {s : ByteArray} (h : inB acc s = false) : addSym acc s = acc ++ [s] := if_neg (by rw [h]; decide)
theorem addSym_nodup {acc : List ByteArray} {s : ByteArray} (h : acc.Nodup) : (addSym acc s).Nodup := by
  unfold addSym
  split
  · exact h
  · rename_i hn
    rw [List.nodup_append]
    exact ⟨h, by simp, fun a ha b hb e => by rw [List.mem_singleton] at hb; subst hb e; exact hn ((inB_iff _ _).2 ha)⟩
theorem addSym_len (acc : List ByteArray) (s : ByteArray) : (addSym acc s).length ≤ acc.length + 1 := by unfold addSym; split <;> simp

end Go.Proofs.Ytlgedjpolmlciaa
