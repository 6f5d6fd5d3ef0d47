/-
  The document's 12: mixed, More, Seal.
-/
import Derived.Test.YtcjckhdjbielhaaCrcB
namespace Go.Proofs.Ytcjckhdjbielhaa
open Go.RowKit

theorem btI_bit (x i : Nat) (hi : i ≤ 63) : btI x (i : Int) = x.testBit i := by
  unfold btI
  rw [Nat.testBit_eq_decide_div_mod_eq, Int.toNat_natCast]
  simp
  omega
theorem ret_u64 {a b : Int} (h : a = b) : Ending.returned (.int .u64 a) = .returned (.int .u64 b) := by rw [h]

/-- Bits come one by one. -/
theorem low_succ (X i : Nat) : X % 2 ^ (i + 1) = X % 2 ^ i + if X.testBit i then 2 ^ i else 0 := by
  rw [Nat.testBit_eq_decide_div_mod_eq, Nat.pow_succ, Nat.mod_mul]
  have := Nat.mod_two_eq_zero_or_one (X / 2 ^ i)
  rcases this with h | h <;> rw [h] <;> simp

set_option maxHeartbeats 1600000 in
set_option maxRecDepth 1000000 in
theorem ref_mixed (x : Nat) (hx : x < 4294967296) (w : World) :
    Calls Try.prog 16 #[.int .u64 x] w fun e w' => e = .returned (.int .u64 (x ^^^ 2168537515 : Nat)) ∧ w' = w := by
  have hb1 := fun i w => ref_Bit x (by omega) i w
  have hb2 : ∀ (i : Int) (w : World), Calls Try.prog 15 #[.int .u64 2168537515, .int .i64 i] w fun e w' => e = .returned (.bool (btI 2168537515 i)) ∧ w' = w := fun i w => ref_Bit 2168537515 (by decide) i w
  have hX : x ^^^ 2168537515 < 4294967296 := xor32_lt hx (by decide)
  have HX := Hid.mk (fun i => (Nat.testBit_xor (x := x) (y := 2168537515) (i := i)))
  obtain ⟨X, hXe⟩ : ∃ X, x ^^^ 2168537515 = X := ⟨_, rfl⟩
  rw [hXe] at hX HX ⊢
  clear hXe
  go_enter Try.func16, Try.ntmps16
  go_wp2
  go_loop [3, 4, 5] (fun o p k => ∃ i : Nat, i ≤ 32 ∧ k = .int .i64 i ∧ o = .int .u64 (X % 2 ^ i : Nat) ∧ p = .int .u64 (2 ^ i : Nat)) (fun _ _ k => 32 - (intOf k).toNat)
  case atStart => exact ⟨0, by omega, rfl, by rw [Nat.pow_zero, Nat.mod_one]; rfl, rfl⟩
  case round =>
    obtain ⟨i, hi, rfl, rfl, rfl⟩ := hrel
    by_cases hlt : i < 32
    · have e1 := btI_bit x i (by omega)
      have e2 := btI_bit 2168537515 i (by omega)
      have hs := low_succ X i
      have hl : X % 2 ^ i < 2 ^ i := Nat.mod_lt _ (Nat.two_pow_pos _)
      have hp : 2 ^ i ≤ 2147483648 := Nat.pow_le_pow_right (n := 2) (by decide) (show i ≤ 31 by omega)
      have hps : 2 ^ (i + 1) = 2 ^ i * 2 := Nat.pow_succ ..
      rw [HX.out i] at hs
      cases h1 : x.testBit i <;> cases h2 : (2168537515 : Nat).testBit i
      all_goals
        rw [h1] at e1
        rw [h2] at e2
        rw [h1, h2] at hs
        simp at hs
        obtain ⟨O, hO⟩ : ∃ O, X % 2 ^ i = O := ⟨_, rfl⟩
        obtain ⟨P, hP⟩ : ∃ P, 2 ^ i = P := ⟨_, rfl⟩
        rw [hO, hP] at hl ⊢
        rw [hP] at hp hps
        rw [hO] at hs
        try rw [hP] at hs
        have HS := Hid.mk (And.intro hs hps)
        clear hs hps hO hP h1 h2
        go_wp2_with (first
          | (go_at_call_of 15 (Value.int IntKind.u64 2168537515); refine (hb2 _ _).mono ?_; rintro e w' ⟨rfl, hw'⟩; subst w')
          | (go_at_call 15; refine (hb1 _ _).mono ?_; rintro e w' ⟨rfl, hw'⟩; subst w'))
        exact ⟨⟨i + 1, by omega, by go_num, by rw [HS.out.1]; try go_num, by rw [HS.out.2]; go_num⟩, by simp [intOf]; omega⟩
    · go_wp2
      obtain rfl : i = 32 := by omega
      go_ret
      exact ⟨ret_u64 (by omega), rfl⟩

theorem top_is {x : Nat} (hx : x < 4294967296) : ((x : Int) / 2147483648 == 1) = x.testBit 31 := by
  rw [Nat.testBit_eq_decide_div_mod_eq]
  by_cases h : x / 2147483648 % 2 = 1
  · rw [decide_eq_true (by simpa using h)]; simp; omega
  · rw [decide_eq_false (by simpa using h)]; simp; omega
theorem shl1_int (x : Nat) : (x : Int) * 2 % 4294967296 = ((shl1 x : Nat) : Int) := by unfold shl1; omega

set_option maxHeartbeats 3200000 in
set_option maxRecDepth 1000000 in
theorem ref_more (c : Nat) (hc : c < 4294967296) (l : List UInt8) (hl : l.length ≤ 1000000) (w : World) :
    Calls Try.prog 9 #[.int .u32 c, .string (bs l)] w fun e w' => e = .returned (.int .u32 (crcM c l : Nat)) ∧ w' = w := by
  have hsz : (bs l).size = l.length := bs_size l
  have hi := inv_lt c
  have HI := Hid.mk (show (4294967295 : Int) - (c : Int) = ((inv c : Nat) : Int) by unfold inv; omega)
  go_enter Try.func9, Try.ntmps9
  go_wp2
  go_loop [5, 6, 7, 8] (fun v k _ _ => ∃ r : Nat, r ≤ l.length ∧ k = .int .i64 r ∧ v = .int .u64 (rb (inv c) (bitOf l) (8 * r) : Nat)) (fun _ k _ _ => l.length - (intOf k).toNat)
  case atStart => exact ⟨0, by omega, rfl, by rw [HI.out]; rfl⟩
  case round =>
    obtain ⟨r, hr, rfl, rfl⟩ := hrel
    have hM := rb_lt (bitOf l) hi (8 * r)
    by_cases hlt : r < l.length
    · have hlt' : r < (bs l).size := by omega
      obtain ⟨B, hB⟩ : ∃ B, bt l r = B := ⟨_, rfl⟩
      have hbt : ((bs l)[r]'hlt').toNat = B := by rw [bt_bs, hB]
      have hb256 : B < 256 := by rw [← hB]; exact bt_lt _ _
      have HB := Hid.mk (rb_byte (inv c) l r)
      rw [hB] at HB
      clear hB
      obtain ⟨M, hMe⟩ : ∃ M, rb (inv c) (bitOf l) (8 * r) = M := ⟨_, rfl⟩
      rw [hMe] at hM HB ⊢
      clear hMe HI
      have HQ := Hid.mk (show ∀ j, rb M (fun i => B.testBit (7 - i)) j < 4294967296 from rb_lt _ hM)
      have hbit := fun i w => ref_Bit B (by omega) i w
      go_wp2
      go_loop [5, 7, 8] (fun v k _ => ∃ j : Nat, j ≤ 8 ∧ k = .int .i64 (7 - (j : Int)) ∧ v = .int .u64 (rb M (fun i => B.testBit (7 - i)) j : Nat)) (fun _ k _ => (intOf k + 1).toNat)
      case atStart => exact ⟨0, by omega, rfl, rfl⟩
      case round =>
        obtain ⟨j, hj, rfl, rfl⟩ := hrel
        by_cases hj8 : j < 8
        · obtain ⟨K, hK⟩ : ∃ K : Nat, 7 - j = K := ⟨_, rfl⟩
          obtain rfl : j = 7 - K := by omega
          have hKi : (7 : Int) - ((7 - K : Nat) : Int) = (K : Int) := by omega
          have hY := HQ.out (7 - K)
          have hst : rb M (fun i => B.testBit (7 - i)) (7 - K + 1) = stp1 (rb M (fun i => B.testBit (7 - i)) (7 - K)) (B.testBit K) := by rw [rb, show 7 - (7 - K) = K by omega]
          have HST := Hid.mk hst
          have hK7 : K ≤ 7 := by omega
          rw [hKi]
          obtain ⟨Y, hYe⟩ : ∃ Y, rb M (fun i => B.testBit (7 - i)) (7 - K) = Y := ⟨_, rfl⟩
          rw [hYe] at hY HST ⊢
          clear hst hYe hj hj8 hK hKi
          have ht := top_is hY
          have hsh := shl1_int Y
          have hbb := btI_bit B K (by omega)
          have hmx := fun w => ref_mixed (shl1 Y) (shl1_lt Y) w
          have hlt2 := shl1_lt Y
          have hY2 : stp1 Y (B.testBit K) = shl1 Y ^^^ dv (Y.testBit 31 ^^ B.testBit K) := rfl
          cases hp : Y.testBit 31 <;> cases hq : B.testBit K
          all_goals
            rw [hp] at ht
            rw [hq] at hbb
            rw [hp, hq] at hY2
            simp [dv] at hY2
            rw [hq, hY2] at HST
            clear hY2 hp hq
            generalize shl1 Y = Z at *
            go_wp2_with (first
              | (go_at_call 15; refine (hbit _ _).mono ?_; rintro e w' ⟨rfl, hw'⟩; subst w')
              | (go_at_call 16; refine (hmx _).mono ?_; rintro e w' ⟨rfl, hw'⟩; subst w'))
            exact ⟨⟨7 - K + 1, by omega, by congr 1; omega, by rw [HST.out]⟩, by simp [intOf] <;> omega⟩
        · obtain rfl : j = 8 := by omega
          go_wp2
          exact ⟨⟨r + 1, by omega, by go_num, by rw [HB.out]; rfl⟩, by simp [intOf]; omega⟩
    · obtain rfl : r = l.length := by omega
      have HE := Hid.mk (show crcM c l = inv (rb (inv c) (bitOf l) (8 * l.length)) from rfl)
      obtain ⟨R, hRe⟩ : ∃ R, rb (inv c) (bitOf l) (8 * l.length) = R := ⟨_, rfl⟩
      rw [hRe] at hM HE ⊢
      clear hRe HI
      go_wp2
      go_ret
      exact ⟨ret_u32 (by rw [HE.out]; unfold inv; omega), rfl⟩

set_option maxRecDepth 1000000 in
theorem ref_Seal (l : List UInt8) (hl : l.length ≤ 1000000) (w : World) :
    Calls Try.prog 13 #[.string (bs l)] w fun e w' => e = .returned (.string (bs (l ++ sealB (crcM 0 l)))) ∧ More w w' := by
  have hm := fun w => ref_more 0 (by decide) l hl w
  have hlt := crcM_lt 0 l
  have hadd : ∀ w, (Op.stringOp .add (bs l) (bs (sealB (crcM 0 l)))).run Try.prog w = .ok (.string (bs (l ++ sealB (crcM 0 l)))) w := fun w => by
    rw [run_string_add_sum w _ _ (by rw [bs_size, bs_size, sealB_len]; omega), bs_append]
  generalize crcM 0 l = c at *
  have hcv := conv_four (c := c) hlt
  generalize l ++ sealB c = z at *
  generalize sealB c = y at *
  go_enter Try.func13, Try.ntmps13
  go_wp2_with (go_at_call 9; refine (hm _).mono ?_; rintro e w' ⟨rfl, hw'⟩; subst w')
  go_ret
  exact ⟨rfl, More.alloc _ _⟩
end Go.Proofs.Ytcjckhdjbielhaa
