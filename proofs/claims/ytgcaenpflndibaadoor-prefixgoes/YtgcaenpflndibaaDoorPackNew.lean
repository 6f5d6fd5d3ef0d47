/-
  Packs are made: New, Fit, Of.
-/
import Derived.Test.YtgcaenpflndibaaDoorPack
namespace Go.Proofs.YtgcaenpflndibaaDoor
open Go.RowKit

theorem Rd.cellP {w w' : World} {ao : Option Addr} {K cap : Nat} {f : Nat → Nat} (h : Rd w (.slice ao K cap) K f) (k : Nat) (hk : k < K) : ∃ g o, ao = some ⟨g, o, none⟩ ∧ (More w w' → w'.cell? ⟨g, o + k, none⟩ = some (.int .u64 (f k : Nat))) := by
  rcases h with ⟨rfl, _⟩ | ⟨g, o, cap', h, hg, hc⟩
  · omega
  · simp at h
    exact ⟨g, o, h.1, fun m => (m.cell (p := ⟨g, o + k, none⟩) hg).trans (hc k hk)⟩

theorem addErr_le (x d : Nat) (hd : d ≤ 64) (h : Lib.bitLen x ≤ d) : addErr x d = 0 := by
  unfold addErr
  rw [if_neg (by omega), if_neg (by simp; omega)]
theorem addErr_gt (x d : Nat) (hd : d ≤ 64) (h : ¬ Lib.bitLen x ≤ d) : addErr x d = 8 := by
  unfold addErr
  rw [if_neg (by omega), if_pos (by simp; omega)]

theorem new_bad (v : Value) (d : Int) (w : World) (hd : ¬ (0 ≤ d ∧ d ≤ 64)) :
    Calls Tryd.prog 33 #[.int .i64 d, v] w fun e w' => e = .returned (.tuple #[.pointer none, .int .i64 1]) ∧ w' = w := by
  have hm := fun w => may_be d w
  rw [show decide (0 ≤ d ∧ d ≤ 64) = false by simpa using hd] at hm
  clear hd
  go_enter Tryd.func33, Tryd.ntmps33
  go_wp2_with (go_at_call 52; refine (hm _).mono ?_; rintro e w' ⟨rfl, hw⟩; subst hw)
  go_ret2
  exact ⟨rfl, rfl⟩

set_option maxHeartbeats 800000 in
set_option maxRecDepth 1000000 in
theorem pack_new (v : Value) (K d : Nat) (f : Nat → Nat) (w : World) (h : Rd w v K f) (hf : ∀ j, j < K → f j < 18446744073709551616) (hd : d ≤ 64) (hK : K ≤ 1000000) :
    Calls Tryd.prog 33 #[.int .i64 d, v] w fun e w' => ((wid f K ≤ d ∧ ∃ p, e = .returned (.tuple #[.pointer (some ⟨p, 0, none⟩), .int .i64 0]) ∧ PackAt w' w.heap.size p (packV d f K) d K) ∨ (¬ wid f K ≤ d ∧ e = .returned (.tuple #[.pointer none, .int .i64 8]))) ∧ More w w' := by
  obtain ⟨ao, cap, rfl⟩ := h.shape
  have hm := fun w => may_be d w
  rw [show decide (0 ≤ (d : Int) ∧ (d : Int) ≤ 64) = true by simp; omega] at hm
  have hrow0 : RowAt (w.alloc (.cells #[.slice none 0 0, .int .i64 0] 80)) w.heap.size w.heap.size 0 0 :=
    ⟨Nat.le_refl _, by decide, by decide, _, heap_alloc_new _ _, World.ownsRow_nil _ _ _ _⟩
  have HR0 : Hid _ := And.intro hrow0 ((Below.refl w.heap.size w).alloc (Nat.le_refl _) (.cells #[.slice none 0 0, .int .i64 0] 80))
  have HH : Hid _ := And.intro h (And.intro hf hd)
  clear hrow0 h hf hd
  go_enter Tryd.func33, Tryd.ntmps33
  go_wp2_with (first
    | (go_at_call 52; refine (hm _).mono ?_; rintro e w' ⟨rfl, hw⟩; subst w')
    | (go_at_call 38; refine (new_row _).mono ?_; rintro e w' ⟨rfl, hw⟩; subst w'))
  go_loopw [16] (fun i wr => ∃ k : Nat, k ≤ K ∧ i = .int .i64 k ∧ Hid (RowAt wr w.heap.size w.heap.size (packV d f k) (d * k) ∧ wid f k ≤ d ∧ Below w.heap.size w wr)) (fun i _ => K - (intOf i).toNat)
  case atStart => exact ⟨0, Nat.zero_le _, rfl, Hid.mk ⟨HR0.out.1, Nat.zero_le _, HR0.out.2⟩⟩
  case round =>
    obtain ⟨k, hk, rfl, hown⟩ := hrel
    by_cases hkK : k < K
    · obtain ⟨g, o, rfl, hc⟩ := HH.out.1.cellP (w' := wr) k hkK
      have hck := hc hown.out.2.2
      clear hc
      have hx := HH.out.2.1 k hkK
      have hnl : d * k + 64 ≤ 1099511627776 := by
        have := Nat.mul_le_mul HH.out.2.2 (show k ≤ 1000000 by omega)
        omega
      have hadd := row_add w.heap.size w.heap.size (packV d f k) (d * k) (f k) d wr hown.out.1 hown.out.2.2.size hx hnl
      by_cases hb : Lib.bitLen (f k) ≤ d
      · have e0 := addErr_le (f k) d HH.out.2.2 hb
        rw [addV, addN, if_pos e0, if_pos e0, e0, Int.toNat_natCast] at hadd
        have HB : Hid _ := hb
        clear hx hb e0 hnl
        go_wp2_with (go_at_call 39; refine hadd.mono ?_; rintro e w1 ⟨rfl, hrow, hkeep⟩; have H1 := Hid.mk (And.intro hrow (hown.out.2.2.trans hkeep.below)); clear hrow hkeep)
        refine ⟨⟨k + 1, by omega, by go_num, Hid.mk ⟨H1.out.1, ?_, H1.out.2⟩⟩, by simp [intOf]; omega⟩
        rw [wid]; exact Nat.max_le.2 ⟨hown.out.2.1, HB.out⟩
      · have e0 := addErr_gt (f k) d HH.out.2.2 hb
        rw [e0] at hadd
        have HB : Hid _ := hb
        clear hx hb e0 hnl
        go_wp2_with (go_at_call 39; refine hadd.mono ?_; rintro e w1 ⟨rfl, _, hkeep⟩; have H1 := Hid.mk (hown.out.2.2.trans hkeep.below); clear hkeep)
        go_ret2
        exact ⟨.inr ⟨fun hh => HB.out ((wid_le f K d).1 hh k hkK), rfl⟩, H1.out⟩
    · obtain rfl : k = K := by omega
      clear hkK hk
      go_wp2
      go_ret2
      refine ⟨.inl ⟨hown.out.2.1, _, rfl, ⟨?_, HH.out.2.2, by omega, _, heap_alloc_new _ _, ?_⟩⟩, ?_⟩
      · exact hown.out.2.2.size
      · exact More.row hown.out.1 ((Below.refl wr.heap.size wr).alloc (Nat.le_refl _) _)
      · exact hown.out.2.2.alloc hown.out.2.2.size _

end Go.Proofs.YtgcaenpflndibaaDoor
