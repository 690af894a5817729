/- The walks of takeAlone and of what it hands back. -/
import Derived.Test.YtmhdbjoljonhdaaAfterU
import Derived.BigQuiet
import Derived.Deep.QuietTactic
namespace Go.Proofs.Ytmhdbjoljonhdaa
open Go.RowKit

theorem BitsAt.take {w : World} {hi b off n c : Nat} {l : List Nat} (h : BitsAt w hi (.slice (some ⟨b, off, none⟩) n c) l) {k : Nat} (hk : k ≤ l.length) : BitsAt w hi (.slice (some ⟨b, off, none⟩) k c) (l.take k) := by
  obtain ⟨A, c', e, h1, h2, h3, h4⟩ := h
  injection e with e1 e2 e3
  subst e1 e3
  have hlen : (l.take k).length = k := by rw [List.length_take]; omega
  refine ⟨_, c, by rw [hlen], by rw [hlen]; omega, h2, fun x hx => h3 x (List.mem_of_mem_take hx), fun hp => ?_⟩
  rw [hlen] at hp
  obtain ⟨b', off', e, hb, hc⟩ := h4 (by omega)
  injection e with e
  injection e with e1 e2
  subst e1 e2
  refine ⟨_, _, rfl, hb, fun i hi => ?_⟩
  rw [hc i (by rw [hlen] at hi; omega), List.getElem_take]
theorem BitsAt.drop {w : World} {hi b off n c : Nat} {l : List Nat} (h : BitsAt w hi (.slice (some ⟨b, off, none⟩) n c) l) {k : Nat} (hk : k ≤ l.length) {a : Option Addr} (ha : c ≠ k → a = some ⟨b, off + k, none⟩) : BitsAt w hi (.slice a (n - k) (c - k)) (l.drop k) := by
  obtain ⟨A, c', e, h1, h2, h3, h4⟩ := h
  injection e with e1 e2 e3
  subst e1 e2 e3
  have hlen : (l.drop k).length = l.length - k := List.length_drop
  refine ⟨a, c - k, by rw [hlen], by rw [hlen]; omega, by omega, fun x hx => h3 x (List.mem_of_mem_drop hx), fun hp => ?_⟩
  rw [hlen] at hp
  obtain ⟨b', off', e, hb, hc⟩ := h4 (by omega)
  injection e with e
  injection e with e1 e2
  subst e1 e2
  refine ⟨b, off + k, ha (by omega), hb, fun i hi => ?_⟩
  rw [hlen] at hi
  rw [Nat.add_assoc, hc (k + i) (by omega), List.getElem_drop]

set_option maxRecDepth 100000 in
set_option maxHeartbeats 4000000 in
theorem takeAloneStep_any (v : Value) (l : List Nat) (hi null q : Nat) (w : World) (h : BitsAt w hi v l) (hh : hi ≤ w.heap.size) (hq : Row w q 72 #[.int .u32 (null : Int)]) (hn : null < 4194304) :
    Calls Try.prog 106 #[v, .pointer (some ⟨q, 0, none⟩)] w fun e w' => e = .returned (.int .u32 ((aloneN null l l.length : Nat) : Int)) ∧ Below w.heap.size w w' := by
  have HV := Lib.hid h
  obtain ⟨A, c, rfl, hlc, hc, hsz, hcell⟩ := h
  unfold maxLen at hc
  have HC := Lib.hid hcell
  have HZ := Lib.hid hsz
  have HQ := Lib.hid hq
  have hql := hq.lt
  clear hcell hsz hq
  go_enter Try.func106, Try.ntmps106
  go_wp2
  go_loopw [4, 5, 6, 7, 8, 11] (fun o _ _ _ _ i wr => ∃ k : Nat, k ≤ l.length ∧ i = .int .i64 k ∧ o = .int .u32 ((aloneN null l k : Nat) : Int) ∧ Below w.heap.size w wr) (fun _ _ _ _ _ i _ => l.length - (intOf i).toNat)
  case atStart => exact ⟨0, by omega, rfl, rfl, Below.refl _ _⟩
  case round =>
    obtain ⟨k, hk, rfl, rfl, hbw⟩ := hrel
    have hsw := hbw.size
    by_cases hlt : k < l.length
    · obtain ⟨b, off, rfl, hbh, hcc⟩ := HC.out (by omega)
      have hck := (hbw.cell (p := ⟨b, off + k, none⟩) (by show b < _; omega)).trans (hcc k hlt)
      have cq := (HQ.out.below hbw hql).cell 0
      simp at cq
      clear hcc
      have h1 := aloneN_lt (null := null) HZ.out k
      have h2 := HZ.out _ (List.getElem_mem hlt)
      have HB1 := Lib.hid (((HV.out.below hbw hh).take (k := k) hk))
      have HB2 := Lib.hid (fun (a : Option Addr) (ha : c ≠ k + 1 → a = some ⟨b, off + (k + 1), none⟩) => (HV.out.below hbw hh).drop (k := k + 1) (by omega) ha)
      have hj1 := joinAll_lt (l := l.take k) fun x hx => HZ.out x (List.mem_of_mem_take hx)
      have hj2 := joinAll_lt (l := l.drop (k + 1)) fun x hx => HZ.out x (List.mem_of_mem_drop hx)
      go_wp2
      have cW1 : ∀ n, Calls Try.prog 96 #[.slice (some ⟨b, off, none⟩) k c] (wr.drewN n) fun e w' => e = .returned (.int .u32 ((joinAll (l.take k) : Nat) : Int)) ∧ w' = wr.drewN n := fun n => (wholeBody_any _ (l.take k) hi _ (show BitsAt (wr.drewN n) _ _ _ from HB1.out)).mono fun _ _ ⟨a, b⟩ => ⟨a, b.symm⟩
      have cW2 : ∀ n a, (c ≠ k + 1 → a = some ⟨b, off + (k + 1), none⟩) → Calls Try.prog 96 #[.slice a (l.length - (k + 1)) (c - (k + 1))] (wr.drewN n) fun e w' => e = .returned (.int .u32 ((joinAll (l.drop (k + 1)) : Nat) : Int)) ∧ w' = wr.drewN n := fun n a ha => (wholeBody_any _ (l.drop (k + 1)) hi _ (show BitsAt (wr.drewN n) _ _ _ from HB2.out a ha)).mono fun _ _ ⟨a, b⟩ => ⟨a, b.symm⟩
      have kc : k ≤ c := by omega
      have kl : k + 1 ≤ l.length := hlt
      go_quiet (first | (go_at_call 96; refine Calls.quiet_of_same (cW1 _)) | (go_at_call 96; refine Calls.quiet_of_same (cW2 _ _ (fun h => if_neg h))))
      generalize (if c = k + 1 then some (⟨b, off, none⟩ : Addr) else some ⟨b, off + (k + 1), none⟩) = aX
      have hB3 : Below w.heap.size w (wr.drewN nq) := ⟨hbw.os, hbw.tape, hbw.output, hbw.size, hbw.block⟩
      have cq3 : (wr.drewN nq).cell? ⟨q, 0, none⟩ = some (.int .u32 (null : Int)) := cq
      have hsz3 : (wr.drewN nq).heap.size = wr.heap.size := rfl
      clear cW1 cW2 cq HB1 HB2 hbw
      generalize wr.drewN nq = wq at hB3 cq3 hsz3 ⊢
      have HR : Hid (restN l k = joinAll (l.take k) ||| joinAll (l.drop (k + 1))) := Lib.hid rfl
      have HSU : Hid (aloneN null l (k + 1) = if holdsB null (restN l k) = true then aloneN null l k ||| l[k] else aloneN null l k) := Lib.hid (by
        have e : l.getD k 0 = l[k] := by simp [hlt]
        show (if holdsB null (restN l k) = true then aloneN null l k ||| l.getD k 0 else aloneN null l k) = _
        rw [e])
      have hor := or_lt hj1 hj2
      have hB2 := al1 wq (.cells #[.int .u32 ((joinAll (l.take k) : Nat) : Int), .int .u32 ((joinAll (l.drop (k + 1)) : Nat) : Int)] 72)
      have R2 := Row.made wq 72 #[.int .u32 ((joinAll (l.take k) : Nat) : Int), .int .u32 ((joinAll (l.drop (k + 1)) : Nat) : Int)]
      have HR2 : Hid (Row (wq.alloc (.cells #[.int .u32 ((joinAll (l.take k) : Nat) : Int), .int .u32 ((joinAll (l.drop (k + 1)) : Nat) : Int)] 72)).drew wq.heap.size 72 #[.int .u32 ((joinAll (l.take k) : Nat) : Int), .int .u32 ((joinAll (l.drop (k + 1)) : Nat) : Int)]) := Lib.hid R2
      have bB : Below w.heap.size w (wq.alloc (.cells #[.int .u32 ((joinAll (l.take k) : Nat) : Int), .int .u32 ((joinAll (l.drop (k + 1)) : Nat) : Int)] 72)).drew := (hB3.trans (hB2.mono hB3.size)).drew
      have hlq : q < wq.heap.size := by omega
      have HSZ := Lib.hid hsz3
      clear R2 hB2 hsz3
      go_wp2
      cases hx : holdsB null (joinAll (l.take k) ||| joinAll (l.drop (k + 1)))
      · have HX := Lib.hid hx
        have HN : Hid (aloneN null l (k + 1) = aloneN null l k) := Lib.hid (by rw [HSU.out, HR.out, hx]; rfl)
        clear hx
        go_region_held3 (fun w' => w'.cell? ⟨q, 0, none⟩ = some (.int .u32 (null : Int)))
          (first | go_keep | assumption)
          (first
            | (go_at_call 95; refine (joinTwo_any wq.heap.size (joinAll (l.take k)) (joinAll (l.drop (k + 1))) 72 _ HR2.out hj1 hj2).mono ?_; rintro e w6 ⟨rfl, rfl⟩)
            | (go_at_call 69; refine (holds_any null (joinAll (l.take k) ||| joinAll (l.drop (k + 1))) _ hn hor).mono ?_; rintro e w7 ⟨rfl, rfl⟩; rw [HX.out]))
        go_wp2
        go_roundw
        case rel => exact ⟨k + 1, by omega, by go_num, by rw [HN.out], bB⟩
        case measure => simp [intOf]; omega
      · have HX := Lib.hid hx
        have HN : Hid (aloneN null l (k + 1) = aloneN null l k ||| l[k]) := Lib.hid (by rw [HSU.out, HR.out, hx]; rfl)
        clear hx
        go_region_held3 (fun w' => w'.cell? ⟨q, 0, none⟩ = some (.int .u32 (null : Int)))
          (first | go_keep | assumption)
          (first
            | (go_at_call 95; refine (joinTwo_any wq.heap.size (joinAll (l.take k)) (joinAll (l.drop (k + 1))) 72 _ HR2.out hj1 hj2).mono ?_; rintro e w6 ⟨rfl, rfl⟩)
            | (go_at_call 69; refine (holds_any null (joinAll (l.take k) ||| joinAll (l.drop (k + 1))) _ hn hor).mono ?_; rintro e w7 ⟨rfl, rfl⟩; rw [HX.out]))
        clear HR2
        generalize (wq.alloc (.cells #[.int .u32 ((joinAll (l.take k) : Nat) : Int), .int .u32 ((joinAll (l.drop (k + 1)) : Nat) : Int)] 72)).drew = wB at *
        have R9 := Row.made wB 72 #[.int .u32 ((aloneN null l k : Nat) : Int), .int .u32 ((l[k] : Nat) : Int)]
        go_wp2_with fail
        refine (joinTwo_any wB.heap.size (aloneN null l k) l[k] 72 _ R9 h1 h2).mono ?_
        rintro e w9 ⟨rfl, rfl⟩
        go_wp2
        go_roundw
        case rel => exact ⟨k + 1, by omega, by go_num, by rw [HN.out], bB.trans ((al1 _ _).mono bB.size)⟩
        case measure => simp [intOf]; omega
    · have hks : k = l.length := by omega
      subst hks
      go_wp2
      go_ret
      exact ⟨rfl, hbw⟩
set_option maxHeartbeats 400000 in
theorem takeAlone_any (null : Nat) (w : World) (hn : null < 4194304) :
    Calls Try.prog 68 #[.int .u32 (null : Int)] w fun e w' => ∃ lb, e = .returned (.func (.func 106) #[] lb) ∧ TakesSet 106 lb (fun l => aloneN null l l.length) w' ∧ Below w.heap.size w w' := by
  have hmf : ∀ (fn : Fn) (first cap : Array Value) (w : World), (Instr.makeFunc fn first cap).run Try.prog w = .ok (.func fn first cap) w := fun _ _ _ _ => rfl
  go_enter Try.func68, Try.ntmps68
  go_wp2
  go_ret
  exact ⟨_, rfl, fun W v l hi hB hh bW => takeAloneStep_any v l hi null w.heap.size W hB hh ((Row.made w 72 #[.int .u32 (null : Int)]).below bW (by simp)) hn, al1 _ _⟩
end Go.Proofs.Ytmhdbjoljonhdaa
