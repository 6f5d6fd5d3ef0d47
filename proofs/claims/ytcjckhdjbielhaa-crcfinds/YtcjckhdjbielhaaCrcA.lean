/-
  crc: moved, More.
-/
import Derived.Test.YtcjckhdjbielhaaRows
import Derived.Test.YtcjckhdjbielhaaCrcMath
import Derived.WalkKit
import Derived.ProofKit
import Derived.Laws.BitsAllLaws
import Derived.Test.YtcjckhdjbielhaaWireMem
namespace Go.Proofs.Ytcjckhdjbielhaa
open Go.RowKit

theorem wrapU32 (z : Int) (h0 : 0 ≤ z) (h1 : z < 4294967296) : IntKind.u32.wrap z = z := by
  rw [IntKind.wrap_u32]; omega
theorem ret_u32 {a b : Int} (h : a = b) : Ending.returned (.int .u32 a) = .returned (.int .u32 b) := by rw [h]

/-- Behind r of a byte's bits, as the program holds it. -/
def mvr (x b r : Nat) : Nat := rb x (fun i => b.testBit (7 - i)) r ^^^ b % 2 ^ (8 - r) * 2 ^ (24 + r)
theorem mvr_lt {x b r : Nat} (hx : x < 4294967296) (hr : r ≤ 8) : mvr x b r < 4294967296 := by
  refine xor32_lt (rb_lt _ hx _) ?_
  have h1 : b % 2 ^ (8 - r) < 2 ^ (8 - r) := Nat.mod_lt _ (Nat.two_pow_pos _)
  have h2 := Nat.mul_lt_mul_of_pos_right h1 (Nat.two_pow_pos (24 + r))
  rw [← Nat.pow_add, show 8 - r + (24 + r) = 32 by omega] at h2
  omega
theorem mvr_zero {x b : Nat} (hb : b < 256) : mvr x b 0 = x ^^^ b * 16777216 := by
  unfold mvr
  rw [rb, show (2 : Nat) ^ (8 - 0) = 256 from rfl, Nat.mod_eq_of_lt hb]
theorem mvr_end (x b : Nat) : mvr x b 8 = stp8 x b := by
  unfold mvr stp8
  rw [show 8 - 8 = 0 from rfl, Nat.pow_zero, Nat.mod_one, Nat.zero_mul, Nat.xor_zero]
theorem mvr_succ {x b r : Nat} (hr : r < 8) : mvr x b (r + 1) = shl1 (mvr x b r) ^^^ dv ((mvr x b r).testBit 31) := by
  have h := moved_step (x := rb x (fun i => b.testBit (7 - i)) r) (m := b % 2 ^ (8 - r)) (j := 7 - r) (by omega)
  rw [show 31 - (7 - r) = 24 + r by omega] at h
  unfold mvr
  rw [h, rb, show (8 - (r + 1)) = 7 - r by omega, show 32 - (7 - r) = 24 + (r + 1) by omega, Nat.testBit_mod_two_pow, decide_eq_true (show 7 - r < 8 - r by omega), Bool.true_and]
  congr 2
  rw [Nat.mod_mod_of_dvd]
  exact Nat.pow_dvd_pow 2 (by omega)

theorem dv_of {M : Nat} (h : M < 4294967296) : (M : Int) / 2147483648 * 2168537515 = ((dv (M.testBit 31) : Nat) : Int) := by
  have h1 : M.testBit 31 = decide (M / 2147483648 % 2 = 1) := by rw [Nat.testBit_eq_decide_div_mod_eq]
  rw [h1]
  by_cases h2 : M / 2147483648 % 2 = 1
  · rw [decide_eq_true h2]; show _ = ((2168537515 : Nat) : Int); omega
  · rw [decide_eq_false h2]; show _ = ((0 : Nat) : Int); omega
theorem mvr_step {x b r M : Nat} (hr : r < 8) (hM : M < 4294967296) (h : mvr x b r = M) : bits .xor .u32 ((M : Int) * 2 % 4294967296) ((M : Int) / 2147483648 * 2168537515) = ((mvr x b (r + 1) : Nat) : Int) := by
  rw [mvr_succ hr, h, dv_of hM, show (M : Int) * 2 % 4294967296 = ((shl1 M : Nat) : Int) by unfold shl1; omega, u32_xor_nat _ _ (shl1_lt _) (dv_lt _)]
theorem ones_xor {c : Nat} (h : c < 4294967296) : bits .xor .u32 IntKind.u32.max (c : Int) = ((inv c : Nat) : Int) := by
  have h1 := u32_xor_nat 4294967295 c (by decide) h
  rw [show ((4294967295 : Nat) : Int) = IntKind.u32.max by decide] at h1
  rw [h1]
  congr 1
  apply Nat.eq_of_testBit_eq
  intro i
  rw [Nat.testBit_xor, show (4294967295 : Nat) = 2 ^ 32 - 1 from rfl, Nat.testBit_two_pow_sub_one]
  by_cases hi : i < 32
  · rw [inv_bit h hi, decide_eq_true hi, Bool.true_xor]
  · have hb : ∀ {x : Nat}, x < 4294967296 → x.testBit i = false := fun hx => Nat.testBit_lt_two_pow (Nat.lt_of_lt_of_le hx (Nat.pow_le_pow_right (n := 2) (by decide) (show 32 ≤ i by omega)))
    rw [hb h, hb (inv_lt c), decide_eq_false hi]
    rfl

set_option maxRecDepth 1000000 in
theorem crc_moved (c b : Nat) (hc : c < 4294967296) (hb : b < 256) (w : World) :
    Calls Try.prog 14 #[.int .u32 c, .int .u8 b] w fun e w' => e = .returned (.int .u32 (stp8 c b : Nat)) ∧ w' = w := by
  have e0 : bits .xor .u32 (c : Int) ((b : Int) * 16777216) = ((mvr c b 0 : Nat) : Int) := by rw [show (b : Int) * 16777216 = ((b * 16777216 : Nat) : Int) by omega, u32_xor_nat _ _ hc (by omega), mvr_zero hb]
  have E0 := Hid.mk e0
  clear e0
  go_enter Try.func14, Try.ntmps14
  go_wp2
  go_loop [0, 11] (fun v k => ∃ r : Nat, r ≤ 8 ∧ k = .int .i64 r ∧ v = .int .u32 (mvr c b r : Nat)) (fun _ k => 8 - (intOf k).toNat)
  case atStart => exact ⟨0, by omega, rfl, by rw [E0.out]⟩
  case round =>
    obtain ⟨r, hr, rfl, rfl⟩ := hrel
    have hM := mvr_lt (b := b) hc hr
    by_cases hlt : r < 8
    · obtain ⟨M, hMe⟩ : ∃ M, mvr c b r = M := ⟨_, rfl⟩
      rw [hMe] at hM ⊢
      have HS := Hid.mk (mvr_step hlt hM hMe)
      clear hMe
      go_wp2
      exact ⟨⟨r + 1, by omega, by go_num, by rw [HS.out]⟩, by simp [intOf]; omega⟩
    · go_wp2
      obtain rfl : r = 8 := by omega
      go_ret
      exact ⟨ret_u32 (by rw [mvr_end]), rfl⟩

set_option maxRecDepth 1000000 in
theorem crc_more (c : Nat) (hc : c < 4294967296) (l : List UInt8) (hl : l.length ≤ 9223372036854775807) (w : World) :
    Calls Try.prog 8 #[.int .u32 c, .string (bs l)] w fun e w' => e = .returned (.int .u32 (crcM c l : Nat)) ∧ w' = w := by
  have hsz : (bs l).size = l.length := bs_size l
  have hi := inv_lt c
  have HN := Hid.mk (ones_xor hc)
  go_enter Try.func8, Try.ntmps8
  go_wp2
  go_loop [0, 10] (fun v k => ∃ r : Nat, r ≤ l.length ∧ k = .int .i64 r ∧ v = .int .u32 (rb (inv c) (bitOf l) (8 * r) : Nat)) (fun _ k => l.length - (intOf k).toNat)
  case atStart => exact ⟨0, by omega, rfl, by rw [HN.out]; rfl⟩
  case round =>
    obtain ⟨r, hr, rfl, rfl⟩ := hrel
    have hM := rb_lt (bitOf l) hi (8 * r)
    by_cases hlt : r < l.length
    · have hlt' : r < (bs l).size := by omega
      obtain ⟨B, hB⟩ : ∃ B, bt l r = B := ⟨_, rfl⟩
      have hbt : ((bs l)[r]'hlt').toNat = B := by rw [bt_bs, hB]
      have hb256 : B < 256 := by rw [← hB]; exact bt_lt _ _
      have HB := Hid.mk (rb_byte (inv c) l r)
      rw [hB] at HB
      clear hB
      obtain ⟨M, hMe⟩ : ∃ M, rb (inv c) (bitOf l) (8 * r) = M := ⟨_, rfl⟩
      rw [hMe] at hM HB ⊢
      clear hMe HN
      have hmv := fun w => crc_moved M B hM hb256 w
      go_wp2_with (go_at_call 14; refine (hmv _).mono ?_; rintro e w' ⟨rfl, hw'⟩; subst w')
      exact ⟨⟨r + 1, by omega, by go_num, by rw [HB.out]⟩, by simp [intOf]; omega⟩
    · obtain rfl : r = l.length := by omega
      have HE := Hid.mk (ones_xor hM)
      go_wp2
      go_ret
      exact ⟨ret_u32 (by rw [HE.out]; rfl), rfl⟩

/-- Texts in a row, as read. -/
def TsRd (w : World) (v : Value) (n : Nat) (t : Nat → List UInt8) : Prop :=
  (n = 0 ∧ v = .slice none 0 0) ∨ ∃ b cap, v = .slice (some ⟨b, 0, none⟩) n cap ∧ ∀ j, j < n → w.cell? ⟨b, j, none⟩ = some (.string (bs (t j)))
/-- The sum of texts. -/
def crcS (t : Nat → List UInt8) : Nat → Nat
  | 0 => 0
  | k + 1 => crcM (crcS t k) (t k)
theorem crcS_lt (t : Nat → List UInt8) : ∀ k, crcS t k < 4294967296
  | 0 => by rw [crcS]; decide
  | _ + 1 => crcM_lt _ _

set_option maxRecDepth 1000000 in
theorem crc_of (v : Value) (n : Nat) (t : Nat → List UInt8) (w : World) (h : TsRd w v n t) (hn : n ≤ 1000000) (ht : ∀ j, j < n → (t j).length ≤ 9223372036854775807) :
    Calls Try.prog 10 #[v] w fun e w' => e = .returned (.int .u32 (crcS t n : Nat)) ∧ w' = w := by
  rcases h with ⟨rfl, rfl⟩ | ⟨b, cap, rfl, hcell⟩
  · go_enter Try.func10, Try.ntmps10
    go_wp2
    go_loop [3, 8] (fun v k => k = .int .i64 0 ∧ v = .int .u32 0) (fun _ _ => 0)
    case atStart => exact ⟨rfl, rfl⟩
    case round =>
      obtain ⟨rfl, rfl⟩ := hrel
      go_wp2
      go_ret
      exact ⟨rfl, rfl⟩
  · go_enter Try.func10, Try.ntmps10
    go_wp2
    go_loop [3, 8] (fun v k => ∃ r : Nat, r ≤ n ∧ k = .int .i64 r ∧ v = .int .u32 (crcS t r : Nat)) (fun _ k => n - (intOf k).toNat)
    case atStart => exact ⟨0, by omega, rfl, rfl⟩
    case round =>
      obtain ⟨r, hr, rfl, rfl⟩ := hrel
      have hM := crcS_lt t r
      by_cases hlt : r < n
      · have hc := hcell r hlt
        have hm := fun w => crc_more (crcS t r) hM (t r) (ht r hlt) w
        have HE := Hid.mk (show crcM (crcS t r) (t r) = crcS t (r + 1) from rfl)
        generalize crcS t r = M at *
        generalize t r = x at *
        clear hcell ht
        go_wp2_with (go_at_call 8; refine (hm _).mono ?_; rintro e w' ⟨rfl, hw'⟩; subst w')
        exact ⟨⟨r + 1, by omega, by go_num, by rw [HE.out]⟩, by simp [intOf]; omega⟩
      · obtain rfl : r = n := by omega
        go_wp2
        go_ret
        exact ⟨rfl, rfl⟩
end Go.Proofs.Ytcjckhdjbielhaa
