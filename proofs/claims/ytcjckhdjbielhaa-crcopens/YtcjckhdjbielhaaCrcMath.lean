/-
  Sums of 32 bits, plainly: bit by bit, linear, and what a burst leaves.
-/
import Derived.Test.YtcjckhdjbielhaaWireMath
namespace Go.Proofs.Ytcjckhdjbielhaa
open Go.RowKit

/-- What is put together with a sum where bits part. -/
def dv (b : Bool) : Nat := if b then 2168537515 else 0
theorem dv_xor (a b : Bool) : dv (a ^^ b) = dv a ^^^ dv b := by cases a <;> cases b <;> decide
/-- Moved up by one. -/
def shl1 (c : Nat) : Nat := 2 * c % 4294967296
theorem shl1_bit (c i : Nat) : (shl1 c).testBit i = (decide (i < 32) && (decide (1 ≤ i) && c.testBit (i - 1))) := by
  unfold shl1
  rw [show (4294967296 : Nat) = 2 ^ 32 from rfl, Nat.testBit_mod_two_pow]
  congr 1
  have := Nat.testBit_two_pow_mul (i := 1) (j := i) (a := c)
  simpa using this
theorem shl1_xor (a b : Nat) : shl1 (a ^^^ b) = shl1 a ^^^ shl1 b := by
  apply Nat.eq_of_testBit_eq
  intro i
  rw [Nat.testBit_xor, shl1_bit, shl1_bit, shl1_bit, Nat.testBit_xor]
  cases decide (i < 32) <;> cases decide (1 ≤ i) <;> simp
theorem shl1_lt (c : Nat) : shl1 c < 4294967296 := Nat.mod_lt _ (by decide)
theorem xor32_lt {a b : Nat} (ha : a < 4294967296) (hb : b < 4294967296) : a ^^^ b < 4294967296 := Nat.xor_lt_two_pow (n := 32) ha hb
theorem dv_lt (b : Bool) : dv b < 4294967296 := by cases b <;> decide
/-- One bit. -/
def stp1 (c : Nat) (b : Bool) : Nat := shl1 c ^^^ dv (c.testBit 31 ^^ b)
theorem stp1_lt (c : Nat) (b : Bool) : stp1 c b < 4294967296 := xor32_lt (shl1_lt _) (dv_lt _)
theorem xor4 (a b c d : Nat) : (a ^^^ b) ^^^ (c ^^^ d) = (a ^^^ c) ^^^ (b ^^^ d) := by
  rw [Nat.xor_assoc, Nat.xor_assoc, ← Nat.xor_assoc b, Nat.xor_comm b c, Nat.xor_assoc c]
theorem xorb (a b c d : Bool) : ((a ^^ b) ^^ (c ^^ d)) = ((a ^^ c) ^^ (b ^^ d)) := by cases a <;> cases b <;> cases c <;> cases d <;> rfl
theorem stp1_xor (x y : Nat) (a b : Bool) : stp1 (x ^^^ y) (a ^^ b) = stp1 x a ^^^ stp1 y b := by
  unfold stp1
  rw [shl1_xor, Nat.testBit_xor, xorb, dv_xor, xor4]

/-- Behind k bits. -/
def rb (x : Nat) (B : Nat → Bool) : Nat → Nat
  | 0 => x
  | k + 1 => stp1 (rb x B k) (B k)
theorem rb_lt {x : Nat} (B : Nat → Bool) (hx : x < 4294967296) : ∀ k, rb x B k < 4294967296
  | 0 => hx
  | _ + 1 => stp1_lt _ _
theorem rb_xor (x y : Nat) (B C : Nat → Bool) : ∀ k, rb (x ^^^ y) (fun i => B i ^^ C i) k = rb x B k ^^^ rb y C k
  | 0 => rfl
  | k + 1 => by rw [rb, rb_xor x y B C k, stp1_xor, rb, rb]
theorem rb_congr {x : Nat} {B C : Nat → Bool} : ∀ k, (∀ i, i < k → B i = C i) → rb x B k = rb x C k
  | 0, _ => rfl
  | k + 1, h => by rw [rb, rb, rb_congr k (fun i hi => h i (by omega)), h k (by omega)]
theorem rb_add (x : Nat) (B : Nat → Bool) (a : Nat) : ∀ k, rb x B (a + k) = rb (rb x B a) (fun i => B (a + i)) k
  | 0 => rfl
  | k + 1 => by rw [← Nat.add_assoc, rb, rb_add x B a k, rb]
theorem stp1_zero : stp1 0 false = 0 := by decide
theorem rb_zero {B : Nat → Bool} : ∀ k, (∀ i, i < k → B i = false) → rb 0 B k = 0
  | 0, _ => rfl
  | k + 1, h => by rw [rb, rb_zero k (fun i hi => h i (by omega)), h k (by omega), stp1_zero]

theorem stp1_bit0 (c : Nat) (b : Bool) : (stp1 c b).testBit 0 = (c.testBit 31 ^^ b) := by
  unfold stp1
  rw [Nat.testBit_xor, shl1_bit, show decide (1 ≤ 0) = false from rfl, Bool.false_and, Bool.and_false, Bool.false_xor]
  cases c.testBit 31 <;> cases b <;> decide
/-- What a bit's doing tells of the sum ahead. -/
theorem stp1_back {c t : Nat} {b : Bool} (ht : 1 ≤ t) (ht32 : t ≤ 32) (h : ∀ i, i < t → (stp1 c b).testBit i = false) : c.testBit 31 = b ∧ stp1 c b = shl1 c ∧ ∀ i, i < t - 1 → c.testBit i = false := by
  have h0 := h 0 (by omega)
  rw [stp1_bit0] at h0
  have hb : c.testBit 31 = b := by revert h0; cases c.testBit 31 <;> cases b <;> simp
  have hs : stp1 c b = shl1 c := by unfold stp1; rw [hb]; cases b <;> simp [dv]
  refine ⟨hb, hs, fun i hi => ?_⟩
  have h1 := h (i + 1) (by omega)
  rw [hs, shl1_bit] at h1
  simpa [show i + 1 < 32 by omega] using h1
theorem bits32_zero {c : Nat} (hc : c < 4294967296) (h : ∀ i, i < 32 → c.testBit i = false) : c = 0 := by
  apply Nat.eq_of_testBit_eq
  intro i
  rw [Nat.zero_testBit]
  by_cases hi : i < 32
  · exact h i hi
  · exact Nat.testBit_lt_two_pow (Nat.lt_of_lt_of_le hc (Nat.pow_le_pow_right (n := 2) (by decide) (show 32 ≤ i by omega)))
theorem stp1_none {c : Nat} (hc : c < 4294967296) (h : stp1 c false = 0) : c = 0 := by
  obtain ⟨h1, _, h2⟩ := stp1_back (c := c) (b := false) (t := 32) (by decide) (by decide) (fun i _ => by rw [h, Nat.zero_testBit])
  refine bits32_zero hc fun i hi => ?_
  by_cases h3 : i = 31
  · rw [h3]; exact h1
  · exact h2 i (by omega)
theorem rb_none {x : Nat} {B : Nat → Bool} (hx : x < 4294967296) : ∀ k, (∀ i, i < k → B i = false) → rb x B k = 0 → x = 0
  | 0, _, h => h
  | k + 1, hB, h => by
    rw [rb, hB k (by omega)] at h
    exact rb_none hx k (fun i hi => hB i (by omega)) (stp1_none (rb_lt B hx k) h)

/-- Bits that leave nothing behind, and of which those outside of 32 in a row are noughts, are all noughts. -/
theorem burst {B : Nat → Bool} {n M : Nat} (hM : n + 32 ≤ M) (hlo : ∀ i, i < n → B i = false) (hhi : ∀ i, n + 32 ≤ i → B i = false) (h : rb 0 B M = 0) : ∀ i, B i = false := by
  have hn : rb 0 B n = 0 := rb_zero n hlo
  have hend : rb 0 B (n + 32) = 0 := by
    have h1 := rb_add 0 B (n + 32) (M - (n + 32))
    rw [show n + 32 + (M - (n + 32)) = M by omega, h] at h1
    exact rb_none (rb_lt B (by decide) _) _ (fun i _ => hhi _ (by omega)) h1.symm
  have hback : ∀ j, j ≤ 32 → ∀ i, i < 32 - j → (rb 0 B (n + 32 - j)).testBit i = false := by
    intro j
    induction j with
    | zero => intro _ i _; rw [Nat.sub_zero, hend, Nat.zero_testBit]
    | succ j ih =>
      intro hj i hi
      have h1 := ih (by omega)
      rw [show n + 32 - j = (n + 32 - (j + 1)) + 1 by omega, rb] at h1
      exact (stp1_back (by omega) (by omega) h1).2.2 i (by omega)
  have hfw : ∀ i, i ≤ 32 → rb 0 B (n + i) = 0 ∧ (i < 32 → B (n + i) = false) := by
    intro i
    induction i with
    | zero =>
      intro _
      refine ⟨hn, fun _ => ?_⟩
      have h1 := hback 31 (by decide)
      rw [show n + 32 - 31 = n + 1 by omega, rb] at h1
      have h2 := (stp1_back (by omega) (by omega) h1).1
      rw [hn, Nat.zero_testBit] at h2
      exact h2.symm
    | succ i ih =>
      intro hi
      obtain ⟨h1, h2⟩ := ih (by omega)
      have h3 : rb 0 B (n + (i + 1)) = 0 := by rw [← Nat.add_assoc, rb, h1, h2 (by omega), stp1_zero]
      refine ⟨h3, fun hi2 => ?_⟩
      have h4 := hback (32 - (i + 1 + 1)) (by omega)
      rw [show n + 32 - (32 - (i + 1 + 1)) = n + (i + 1) + 1 by omega, rb] at h4
      have h5 := (stp1_back (by omega) (by omega) h4).1
      rw [h3, Nat.zero_testBit] at h5
      exact h5.symm
  intro i
  by_cases h1 : i < n
  · exact hlo i h1
  · by_cases h2 : n + 32 ≤ i
    · exact hhi i h2
    · have := (hfw (i - n) (by omega)).2 (by omega)
      rwa [show n + (i - n) = i by omega] at this

/-- A sum that meets its own bits is gone. -/
theorem own_bits (y : Nat) : ∀ k, k ≤ 32 → rb y (fun i => y.testBit (31 - i)) k = y * 2 ^ k % 4294967296 ∨ ¬ y < 4294967296
  | 0, _ => by
    by_cases h : y < 4294967296
    · left; rw [rb]; simp; omega
    · exact .inr h
  | k + 1, hk => by
    rcases own_bits y k (by omega) with h | h
    · left
      have hb : (y * 2 ^ k % 4294967296).testBit 31 = y.testBit (31 - k) := by
        rw [show (4294967296 : Nat) = 2 ^ 32 from rfl, Nat.testBit_mod_two_pow, Nat.testBit_mul_two_pow]
        simp; omega
      rw [rb, h, stp1, hb]
      have : dv (y.testBit (31 - k) ^^ y.testBit (31 - k)) = 0 := by cases y.testBit (31 - k) <;> rfl
      rw [this, Nat.xor_zero, shl1, Nat.pow_succ, ← Nat.mul_assoc, Nat.mul_comm 2]
      simp [Nat.mod_mul_mod]
    · exact .inr h
/-- All bits turned round. -/
def inv (c : Nat) : Nat := 4294967295 - c
theorem inv_lt (c : Nat) : inv c < 4294967296 := by unfold inv; omega
theorem inv_inv {c : Nat} (h : c < 4294967296) : inv (inv c) = c := by unfold inv; omega
theorem inv_bit {c : Nat} (h : c < 4294967296) {i : Nat} (hi : i < 32) : (inv c).testBit i = !c.testBit i := by
  unfold inv
  rw [show 4294967295 - c = 2 ^ 32 - (c + 1) by omega, Nat.testBit_two_pow_sub_succ h]
  simp [hi]
/-- What is left of any sum that meets its own bits, turned round. -/
theorem left_same {y : Nat} (hy : y < 4294967296) : rb y (fun i => (inv y).testBit (31 - i)) 32 = rb 0 (fun _ => true) 32 := by
  have h0 : rb y (fun i => y.testBit (31 - i)) 32 = 0 := by
    rcases own_bits y 32 (by decide) with h | h
    · rw [h]; omega
    · exact absurd hy h
  have h1 := rb_xor y 0 (fun i => y.testBit (31 - i)) (fun _ => true) 32
  rw [h0, Nat.zero_xor, Nat.xor_zero] at h1
  rw [← h1]
  refine rb_congr 32 fun i hi => ?_
  rw [inv_bit hy (by omega)]
  cases y.testBit (31 - i) <;> rfl

/-- A text's bit, the highest of each byte first. -/
def bitOf (l : List UInt8) (i : Nat) : Bool := (bt l (i / 8)).testBit (7 - i % 8)
/-- The sum of bytes behind others. -/
def crcM (c : Nat) (l : List UInt8) : Nat := inv (rb (inv c) (bitOf l) (8 * l.length))
theorem crcM_lt (c : Nat) (l : List UInt8) : crcM c l < 4294967296 := inv_lt _
theorem bitOf_at (l : List UInt8) (k i : Nat) (hi : i < 8) : bitOf l (8 * k + i) = (bt l k).testBit (7 - i) := by
  unfold bitOf
  rw [show (8 * k + i) / 8 = k by omega, show (8 * k + i) % 8 = i by omega]
theorem bitOf_left (l m : List UInt8) (i : Nat) (hi : i < 8 * l.length) : bitOf (l ++ m) i = bitOf l i := by
  unfold bitOf bt
  rw [List.getElem?_append_left (by omega)]
theorem bitOf_right (l m : List UInt8) (i : Nat) : bitOf (l ++ m) (8 * l.length + i) = bitOf m i := by
  unfold bitOf bt
  rw [List.getElem?_append_right (by omega), show (8 * l.length + i) / 8 - l.length = i / 8 by omega, show (8 * l.length + i) % 8 = i % 8 by omega]
/-- One byte. -/
def stp8 (c b : Nat) : Nat := rb c (fun i => b.testBit (7 - i)) 8
theorem rb_byte (x : Nat) (l : List UInt8) (k : Nat) : rb x (bitOf l) (8 * (k + 1)) = stp8 (rb x (bitOf l) (8 * k)) (bt l k) := by
  rw [show 8 * (k + 1) = 8 * k + 8 by omega, rb_add, stp8]
  exact rb_congr 8 fun i hi => bitOf_at l k i hi
theorem crcM_nil (c : Nat) (h : c < 4294967296) : crcM c [] = c := by unfold crcM; rw [List.length_nil, Nat.mul_zero, rb, inv_inv h]
theorem crcM_append (c : Nat) (l m : List UInt8) : crcM (crcM c l) m = crcM c (l ++ m) := by
  unfold crcM
  rw [inv_inv (rb_lt _ (inv_lt _) _), List.length_append, Nat.mul_add, rb_add, rb_congr (8 * l.length) (fun i hi => bitOf_left l m i hi)]
  congr 1
  exact rb_congr _ fun i _ => (bitOf_right l m i).symm

/-- A sum's four bytes. -/
def sealB (c : Nat) : List UInt8 := [UInt8.ofNat (c / 16777216), UInt8.ofNat (c / 65536 % 256), UInt8.ofNat (c / 256 % 256), UInt8.ofNat (c % 256)]
theorem sealB_bit {c : Nat} (hc : c < 4294967296) : ∀ i, i < 32 → bitOf (sealB c) i = c.testBit (31 - i) := by
  intro i hi
  unfold bitOf
  rcases (show i / 8 = 0 ∨ i / 8 = 1 ∨ i / 8 = 2 ∨ i / 8 = 3 by omega) with h | h | h | h <;> rw [h]
  · have : bt (sealB c) 0 = c / 2 ^ 24 := by simp [bt, sealB]; omega
    rw [this, Nat.testBit_div_two_pow]
    congr 1; omega
  · have : bt (sealB c) 1 = (c / 2 ^ 16) % 2 ^ 8 := by simp [bt, sealB]
    rw [this, Nat.testBit_mod_two_pow, Nat.testBit_div_two_pow, decide_eq_true (by omega), Bool.true_and]
    congr 1; omega
  · have : bt (sealB c) 2 = (c / 2 ^ 8) % 2 ^ 8 := by simp [bt, sealB]
    rw [this, Nat.testBit_mod_two_pow, Nat.testBit_div_two_pow, decide_eq_true (by omega), Bool.true_and]
    congr 1; omega
  · have : bt (sealB c) 3 = c % 2 ^ 8 := by simp [bt, sealB]
    rw [this, Nat.testBit_mod_two_pow, decide_eq_true (by omega), Bool.true_and]
    congr 1; omega
/-- What is sealed leaves the same, whatever it is. -/
theorem sealed_same (l : List UInt8) : rb 4294967295 (bitOf (l ++ sealB (crcM 0 l))) (8 * (l.length + 4)) = rb 0 (fun _ => true) 32 := by
  rw [Nat.mul_add, rb_add, rb_congr (8 * l.length) (fun i hi => bitOf_left l _ i hi)]
  have hy := rb_lt (bitOf l) (show 4294967295 < 4294967296 by decide) (8 * l.length)
  have hs : crcM 0 l = inv (rb 4294967295 (bitOf l) (8 * l.length)) := rfl
  generalize rb 4294967295 (bitOf l) (8 * l.length) = y at *
  rw [← left_same hy]
  refine rb_congr 32 fun i hi => ?_
  rw [bitOf_right, sealB_bit (crcM_lt _ _) i hi, hs]
/-- P12.3: what is sealed, with bits turned within 32 in a row, is not sealed. -/
theorem turned_found (l l' : List UInt8) (hlen : l'.length = l.length) (E : Nat → Bool) (n : Nat) (hn : n + 32 ≤ 8 * (l.length + 4)) (hlo : ∀ i, i < n → E i = false) (hhi : ∀ i, n + 32 ≤ i → E i = false)
    (h : ∀ i, i < 8 * (l.length + 4) → bitOf (l' ++ sealB (crcM 0 l')) i = (bitOf (l ++ sealB (crcM 0 l)) i ^^ E i)) : ∀ i, E i = false := by
  refine burst hn hlo hhi ?_
  have h1 := sealed_same l
  have h2 := sealed_same l'
  rw [hlen, rb_congr _ h] at h2
  have h3 := rb_xor 4294967295 0 (bitOf (l ++ sealB (crcM 0 l))) E (8 * (l.length + 4))
  rw [Nat.xor_zero, h2, h1] at h3
  have h4 := congrArg (fun z => rb 0 (fun _ => true) 32 ^^^ z) h3
  simp only [← Nat.xor_assoc, Nat.xor_self, Nat.zero_xor] at h4
  exact h4.symm

/-- The program's form of a byte's bits. -/
theorem moved_step {x m j : Nat} (hj : j < 32) : shl1 (x ^^^ m * 2 ^ (31 - j)) ^^^ dv ((x ^^^ m * 2 ^ (31 - j)).testBit 31) = stp1 x (m.testBit j) ^^^ m % 2 ^ j * 2 ^ (32 - j) := by
  have hb : (m * 2 ^ (31 - j)).testBit 31 = m.testBit j := by
    rw [Nat.testBit_mul_two_pow]
    simp [show 31 - (31 - j) = j by omega]
  have hs : shl1 (m * 2 ^ (31 - j)) = m % 2 ^ j * 2 ^ (32 - j) := by
    apply Nat.eq_of_testBit_eq
    intro i
    rw [shl1_bit, Nat.testBit_mul_two_pow, Nat.testBit_mul_two_pow, Nat.testBit_mod_two_pow]
    by_cases h1 : i < 32
    · by_cases h2 : 32 - j ≤ i
      · simp [h1, show 1 ≤ i by omega, show 31 - j ≤ i - 1 by omega, h2, show i - 1 - (31 - j) = i - (32 - j) by omega, show i - (32 - j) < j by omega]
      · have h3 : ¬ (1 ≤ i ∧ 31 - j ≤ i - 1) := by omega
        simp [h1, h2]
        intros; omega
    · have h2 : ¬ i - (32 - j) < j := by omega
      simp [h1, h2]
  unfold stp1
  rw [Nat.testBit_xor, hb, shl1_xor, hs, Nat.xor_assoc, Nat.xor_assoc, Nat.xor_comm (m % 2 ^ j * 2 ^ (32 - j))]
end Go.Proofs.Ytcjckhdjbielhaa
