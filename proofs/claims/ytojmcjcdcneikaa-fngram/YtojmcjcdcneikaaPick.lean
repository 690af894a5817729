/- One of some texts: pick; and the draws of a symbol: DrawIsHead, DrawIsToken. -/
import Derived.Test.YtojmcjcdcneikaaDr
namespace Go.Proofs.Ytojmcjcdcneikaa.Dr
open Go.RowKit

theorem row_only {w w' : World} {p g : Nat} {t : TypeId} {cur : Array Value} (h : Row w g t cur) (o : Only p w w') (hg : g ≠ p) : Row w' g t cur := h.same (o.block g hg)

/-- a draw of one of some texts -/
def DrawP (w : World) (p B : Nat) (ss : List ByteArray) (e : Ending) (w' : World) : Prop := ∃ t ∈ ss, e = .returned (.string t) ∧ Src w' p B ∧ Only p w w'
set_option maxHeartbeats 1000000 in
theorem pick_any (w : World) (p B g : Nat) (ss : List ByteArray) (n : Nat) (hn : ss.length = n) (h1 : 1 ≤ n) (h2 : n ≤ 100) (hs : Src w p B) (hr : Row w g 9 (ss.map Value.string).toArray) (hg : g ≠ p) :
    Calls Try.prog 49 #[.pointer (some ⟨p, 0, none⟩), .slice (some ⟨g, 0, none⟩) n n] w (DrawP w p B ss) := by
  go_enter Try.func49, Try.ntmps49
  go_wp2_with fail
  refine (n_any _ p B (n : Int) hs (by omega)).mono ?_
  rintro e w1 ⟨r, rfl, hr0, hr1, hs1, ho⟩
  obtain ⟨k, rfl, hk⟩ : ∃ k : Nat, r = (k : Int) ∧ k < n := by
    by_cases h : (1 : Int) < n
    · obtain ⟨a, b⟩ := hr1 h
      exact ⟨r.toNat, by omega, by omega⟩
    · exact ⟨0, hr0 (by omega), by omega⟩
  have hc : w1.cell? ⟨g, k, none⟩ = some (.string (ss[k]'(by omega))) := by
    rw [(row_only hr ho hg).cell]
    simp [hn, hk]
  have i1 : (k : Int) < (n : Int) := by omega
  have HO := Lib.hid ho
  have HN := Lib.hid hn
  clear hr0 hr1 ho hr
  go_wp2
  go_ret
  exact ⟨_, List.getElem_mem _, rfl, hs1, HO.out⟩

/-- a draw of a text that is not long -/
def DrawT (w : World) (M : Nat) (e : Ending) (w' : World) : Prop := ∃ t : ByteArray, e = .returned (.string t) ∧ t.size ≤ M ∧ Below w.heap.size w w'
theorem size_all {ss : List ByteArray} {M : Nat} (h : (ss.all fun s => decide (s.size ≤ M)) = true) {t : ByteArray} (ht : t ∈ ss) : t.size ≤ M := by
  have := List.all_eq_true.1 h t ht
  simpa using this

set_option maxRecDepth 100000 in
set_option maxHeartbeats 1000000 in
theorem drawIsHead_any (w : World) (a : Option Addr) (len cap : Nat) (hb : IsBytes w w.heap.size a len) (hl : len ≤ 1048576) :
    Calls Try.prog 16 #[.slice a len cap] w (DrawT w 100) := by
  go_enter Try.func16, Try.ntmps16
  go_wp2_with fail
  refine (source_any w a len cap hb hl).mono ?_
  rintro e w1 ⟨rfl, hs1, hb1⟩
  have hp := hs1.lt
  go_wp2_with fail
  refine (pick_any _ _ _ w1.heap.size [⟨#[65]⟩, ⟨#[65, 66, 67, 68]⟩, ⟨#[65, 66, 67, 68, 69]⟩, ⟨#[]⟩, ⟨#[97]⟩, ⟨#[65, 49]⟩] 6 rfl (by omega) (by omega) (hs1.own (World.grownBy_alloc w1 _ none) hp (fun _ e => by cases e)) (Row.made w1 _ _) (by omega)).mono ?_
  rintro e w2 ⟨t, ht, rfl, hs2, ho⟩
  have hsz := size_all (M := 100) (by rfl) ht
  have HB := Lib.hid (hb1.trans (((al1 w1 _).mono hb1.size).trans (ho.below (Nat.le_refl _))))
  clear ht ho
  go_wp2
  go_ret
  exact ⟨t, rfl, hsz, HB.out⟩
set_option maxRecDepth 100000 in
set_option maxHeartbeats 1000000 in
theorem drawIsToken_any (w : World) (a : Option Addr) (len cap : Nat) (hb : IsBytes w w.heap.size a len) (hl : len ≤ 1048576) :
    Calls Try.prog 17 #[.slice a len cap] w (DrawT w 100) := by
  go_enter Try.func17, Try.ntmps17
  go_wp2_with fail
  refine (source_any w a len cap hb hl).mono ?_
  rintro e w1 ⟨rfl, hs1, hb1⟩
  have hp := hs1.lt
  go_wp2_with fail
  refine (pick_any _ _ _ w1.heap.size [⟨#[97]⟩, ⟨#[97, 98, 99, 100]⟩, ⟨#[97, 98, 99, 100, 101]⟩, ⟨#[]⟩, ⟨#[65]⟩, ⟨#[97, 49]⟩] 6 rfl (by omega) (by omega) (hs1.own (World.grownBy_alloc w1 _ none) hp (fun _ e => by cases e)) (Row.made w1 _ _) (by omega)).mono ?_
  rintro e w2 ⟨t, ht, rfl, hs2, ho⟩
  have hsz := size_all (M := 100) (by rfl) ht
  have HB := Lib.hid (hb1.trans (((al1 w1 _).mono hb1.size).trans (ho.below (Nat.le_refl _))))
  clear ht ho
  go_wp2
  go_ret
  exact ⟨t, rfl, hsz, HB.out⟩
end Go.Proofs.Ytojmcjcdcneikaa.Dr
