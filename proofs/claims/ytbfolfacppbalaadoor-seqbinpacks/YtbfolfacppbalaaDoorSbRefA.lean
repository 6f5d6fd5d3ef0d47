/-
  The document's bytes of rows, packs and sequences.
-/
import Derived.Test.YtbfolfacppbalaaDoorSbMath
import Derived.Test.YtbfolfacppbalaaDoorWireRef
import Derived.Test.YtbfolfacppbalaaDoorWireRefR
import Derived.Test.YtbfolfacppbalaaDoorRowDoc
import Derived.Test.YtbfolfacppbalaaDoorSeqDoc
import Derived.Test.YtbfolfacppbalaaDoorPackRef
namespace Go.Proofs.YtbfolfacppbalaaDoor
open Go.RowKit

theorem rby_take (V n k : Nat) (h : k < nby n) : (rby V n).take (k + 1) = (rby V n).take k ++ [UInt8.ofNat (V / 256 ^ k % 256)] := by
  rw [List.take_add_one]
  congr 1
  unfold rby
  rw [List.getElem?_map, List.getElem?_range h]
  rfl
theorem add_sum (l m : List UInt8) (h : l.length + m.length ≤ 1000000000) (w : World) : (Op.stringOp .add (bs l) (bs m)).run Tryd.prog w = .ok (.string (bs (l ++ m))) w := by
  rw [run_string_add_sum w _ _ (by rw [bs_size, bs_size]; omega), bs_append]

set_option maxHeartbeats 800000 in
set_option maxRecDepth 1000000 in
theorem rsb_row (v : Value) (n V : Nat) (w : World) (h : BRd w v n V) (hV : V < 2 ^ n) (hn : n ≤ 1000000) :
    Calls Tryd.prog 13 #[v] w fun e w' => e = .returned (.string (bs (rby V n))) ∧ More w w' := by
  have hcut := fun (w' : World) (hm : More w w') (k : Nat) (hk : k ≤ 1000000) => ref_cut v n V ((k * 8 : Nat) : Int) 8 w' (h.more hm) hV (by omega) (by omega) (by omega)
  obtain ⟨ao, cap, rfl⟩ := h.shape
  have hrl := rby_len V n
  obtain ⟨L, hL⟩ : ∃ L, rby V n = L := ⟨_, rfl⟩
  have hnx := fun k h => rby_take V n k h
  rw [hL] at hrl hnx ⊢
  obtain ⟨K, hK⟩ : ∃ K, nby n = K := ⟨_, rfl⟩
  rw [hK] at hrl hnx
  have hKn : ∀ k, k < K ↔ 8 * k < n := fun k => by rw [← hK, nby_is]; omega
  have HH := Hid.mk (And.intro hrl hKn)
  have hKb : K ≤ 125001 := by rw [← hK, nby_is]; omega
  clear h hV hL hK hrl
  go_enter Tryd.func13, Tryd.ntmps13
  go_wp2
  go_loopw [3, 4] (fun o i wr => ∃ k : Nat, k ≤ K ∧ i = .int .i64 ((k : Int) * 8) ∧ o = .string (bs (L.take k)) ∧ Hid (More w wr)) (fun _ i _ => n + 8 - (intOf i).toNat)
  case atStart => exact ⟨0, Nat.zero_le _, by simp, by simp [bs], Hid.mk (Below.refl _ _)⟩
  case round =>
    obtain ⟨k, hk, rfl, rfl, HR⟩ := hrel
    by_cases hkK : k < K
    · have hc := hcut wr HR.out k (by omega)
      have h8 : 8 * k < n := (HH.out.2 k).1 hkK
      have h8' : (k : Int) * 8 < (n : Int) := by omega
      have hw8 : IntKind.i64.wrap ((k : Int) * 8 + 8) = (k : Int) * 8 + 8 := by rw [IntKind.wrap_i64]; omega
      rw [show min 64 (8 : Int).toNat = 8 by decide, show cutV V ((k * 8 : Nat) : Int) 8 = V / 256 ^ k % 256 by unfold cutV; rw [if_neg (by omega), Int.toNat_natCast, Nat.mul_comm k 8, Nat.pow_mul], Int.natCast_mul] at hc
      have hXb : V / 256 ^ k % 256 < 256 := Nat.mod_lt _ (by decide)
      have hnk := hnx k hkK
      obtain ⟨X, hX⟩ : ∃ X, V / 256 ^ k % 256 = X := ⟨_, rfl⟩
      rw [hX] at hc hXb hnk
      have hwX : IntKind.u8.wrap (X : Int) = X := by rw [IntKind.wrap_u8]; omega
      have hcv := fun w g h => conv_one X hXb w g h
      have hadd := fun w => add_sum (L.take k) [UInt8.ofNat X] (by rw [List.length_take]; simp; omega) w
      rw [← hnk] at hadd
      generalize UInt8.ofNat X = y at *
      generalize L.take k = z at *
      obtain ⟨z1, hz1⟩ : ∃ z1, L.take (k + 1) = z1 := ⟨_, rfl⟩
      rw [hz1] at hadd
      have HZ := Hid.mk hz1
      clear hnx hcut hX hnk hz1
      go_wp2_with (go_at_call 54; refine hc.mono ?_; rintro e w' ⟨rfl, hw⟩; subst w')
      refine ⟨⟨k + 1, by omega, by simp; omega, by rw [HZ.out], Hid.mk (More.trans HR.out (More.alloc _ _))⟩, by simp [intOf]; omega⟩
    · obtain rfl : k = K := by omega
      have h8 : ¬ 8 * k < n := fun h => hkK ((HH.out.2 k).2 h)
      have h8' : ¬ (k : Int) * 8 < (n : Int) := by omega
      have hall : L.take k = L := List.take_of_length_le (by rw [HH.out.1]; exact Nat.le_refl _)
      rw [hall]
      clear hnx hcut hall
      go_wp2
      go_ret
      exact ⟨rfl, HR.out⟩

set_option maxRecDepth 1000000 in
theorem rsb_upper (x d : Nat) (hx : x ≤ 1099511627776) (hd : d ≤ 64) (w : World) : Calls Tryd.prog 78 #[.int .i64 x, .int .i64 d] w fun e w' => e = .returned (.int .i64 (x / 2 ^ d : Nat)) ∧ w' = w := by
  obtain ⟨Q, hQ⟩ : ∃ Q, x / 2 ^ d = Q := ⟨_, rfl⟩
  rw [hQ]
  have HQ := Hid.mk hQ
  clear hQ
  go_enter Tryd.func78, Tryd.ntmps78
  go_wp2
  go_loop [0, 5] (fun a i => ∃ k X : Nat, k ≤ d ∧ i = .int .i64 k ∧ a = .int .i64 X ∧ X ≤ 1099511627776 ∧ Hid (X = x / 2 ^ k)) (fun _ i => d - (intOf i).toNat)
  case atStart => exact ⟨0, x, Nat.zero_le _, rfl, rfl, hx, Hid.mk (by simp)⟩
  case round =>
    obtain ⟨k, X, hk, rfl, rfl, hX, HX⟩ := hrel
    by_cases hkd : k < d
    · obtain ⟨Y, hY⟩ : ∃ Y, X / 2 = Y := ⟨_, rfl⟩
      have e1 : (X : Int) / 2 = Y := by omega
      have HY := Hid.mk hY
      have hYb : Y ≤ 1099511627776 := by omega
      clear hY
      go_wp2
      refine ⟨⟨k + 1, Y, by omega, by go_num, rfl, hYb, Hid.mk ?_⟩, by simp [intOf]; omega⟩
      rw [Nat.pow_succ, ← Nat.div_div_eq_div_mul, ← HX.out, HY.out]
    · obtain rfl : k = d := by omega
      obtain rfl : X = Q := by rw [HX.out, HQ.out]
      go_wp2
      go_ret
      exact ⟨rfl, rfl⟩

/-- Add of bits that are cut. -/
theorem ref_add_cut (base n V x N : Nat) (v : Value) (w : World) (hown : w.ownsRow base 4 1 v n (bools V n)) (hV : V < 2 ^ n) (hx : x < 18446744073709551616) (hn : n ≤ 1099511627776) (hN : N ≤ 64) :
    Calls Tryd.prog 47 #[v, .int .u64 x, .int .i64 N] w fun e w' => ∃ v', e = .returned v' ∧ w'.ownsRow w.heap.size 4 1 v' (n + N) (bools (cat V n (x % 2 ^ N)) (n + N)) ∧ More w w' := by
  have := ref_add base n V x N v w hown hV hx hn hN
  rw [bools_congr (U := cat V n (x % 2 ^ N)) (fun i hi => by
    rw [cat_bit x hV, cat_bit _ hV]
    by_cases h : i < n
    · rw [if_pos h, if_pos h]
    · rw [if_neg h, if_neg h, Nat.testBit_mod_two_pow]
      simp; omega)] at this
  exact this

set_option maxHeartbeats 800000 in
set_option maxRecDepth 1000000 in
/-- The same bits are the same. -/
theorem rsb_same (a b : Value) (n V : Nat) (w : World) (h : BRd w a n V) (h' : BRd w b n V) (hn : n ≤ 1099511627776) :
    Calls Tryd.prog 79 #[a, b] w fun e w' => e = .returned (.bool true) ∧ ∃ m, w' = w.drewN m := by
  by_cases h0 : n = 0
  · obtain ⟨ao, cap, rfl⟩ := h.shape
    obtain ⟨ao', cap', rfl⟩ := h'.shape
    subst h0
    clear h h'
    go_enter Tryd.func79, Tryd.ntmps79
    go_wp2
    refine wp_loop_rounds 1 ?_; rw [rounds_succ]; go_wp2
    go_ret
    exact ⟨rfl, 0, rfl⟩
  · obtain ⟨g, cap, rfl, hc⟩ : ∃ g cap, a = .slice (some ⟨g, 0, none⟩) n cap ∧ ∀ j, j < n → w.cell? ⟨g, j, none⟩ = some (.bool (V.testBit j)) := by
      rcases h with ⟨rfl, _⟩ | h
      · omega
      · exact h
    obtain ⟨g', cap', rfl, hc'⟩ : ∃ g cap, b = .slice (some ⟨g, 0, none⟩) n cap ∧ ∀ j, j < n → w.cell? ⟨g, j, none⟩ = some (.bool (V.testBit j)) := by
      rcases h' with ⟨rfl, _⟩ | h
      · omega
      · exact h
    have HC := Hid.mk (And.intro hc hc')
    clear h h' hc hc'
    go_enter Tryd.func79, Tryd.ntmps79
    go_wp2
    go_loopw [5] (fun i wr => ∃ k : Nat, k ≤ n ∧ i = .int .i64 k ∧ (∃ m, wr = w.drewN m)) (fun i _ => n - (intOf i).toNat)
    case atStart => exact ⟨0, Nat.zero_le _, rfl, ⟨0, rfl⟩⟩
    case round =>
      obtain ⟨k, hk, rfl, ⟨m, rfl⟩⟩ := hrel
      by_cases hkK : k < n
      · have hck := HC.out.1 k hkK
        have hck' := HC.out.2 k hkK
        generalize V.testBit k = y at *
        go_wp2_with fail
        go_quiet (fail)
        cases y
        all_goals
          go_wp2
          exact ⟨⟨k + 1, by omega, by go_num, ⟨_, rfl⟩⟩, by simp [intOf]; omega⟩
      · go_wp2
        go_ret
        exact ⟨rfl, m, rfl⟩

end Go.Proofs.YtbfolfacppbalaaDoor
