/-
  Bytes, plainly: a number's digits of seven bits, and what is read at the front of bytes.
  Texts cut into lines, pieces, words, sentences, plainly.
  Texts with their numbers, by a table of slots, plainly.
  Vocabularies, plainly: which lists are one, words of a text in the order in which they come, words by numbers.
-/
import Derived.WalkKit
import Derived.ProofKit
import Derived.Lib.AppendStr
import Derived.Lib.Strings
import Derived.Lib.Join
namespace Go.Proofs.Ytiiflegfbieblaa
open Go.RowKit

/-- Bytes as a string. -/
def bs (l : List UInt8) : ByteArray := ⟨l.toArray⟩
theorem bs_size (l : List UInt8) : (bs l).size = l.length := by simp [bs, ByteArray.size]
theorem bs_of (s : ByteArray) : ∃ l, s = bs l := ⟨s.data.toList, by cases s; simp [bs]⟩
theorem bs_append (l m : List UInt8) : bs l ++ bs m = bs (l ++ m) := by unfold bs; rw [ByteArray.mk_append_mk]
theorem bs_cut (l : List UInt8) (a b : Nat) : (bs l).extract a b = bs ((l.take b).drop a) := by
  unfold bs
  rw [ByteArray.extract_mk]
  congr 1
  simp [List.drop_take]
theorem bs_inj {l m : List UInt8} (h : bs l = bs m) : l = m := by
  simpa [bs] using h
theorem bs_cells (l : List UInt8) : Lib.strCells (bs l) = l.map fun b => Value.int .u8 b.toNat := by simp [Lib.strCells, bs]
theorem bs_nil : (ByteArray.mk #[]) = bs [] := rfl

/-- The byte at a place. -/
def bt (l : List UInt8) (i : Nat) : Nat := (l[i]?.getD 0).toNat
theorem bt_lt (l : List UInt8) (i : Nat) : bt l i < 256 := UInt8.toNat_lt _
theorem bt_bs (l : List UInt8) (i : Nat) (h : i < (bs l).size) : ((bs l)[i]'h).toNat = bt l i := by
  have h' : i < l.length := by rw [bs_size] at h; exact h
  unfold bt
  rw [List.getElem?_eq_getElem h']
  rfl
theorem bt_drop (l : List UInt8) (a i : Nat) : bt (l.drop a) i = bt l (a + i) := by simp [bt]
theorem bt_zero (b : UInt8) (l : List UInt8) : bt (b :: l) 0 = b.toNat := rfl
theorem bt_succ (b : UInt8) (l : List UInt8) (i : Nat) : bt (b :: l) (i + 1) = bt l i := by simp [bt]

/-- A number's bytes. -/
def num (v : Nat) : List UInt8 := if v < 128 then [UInt8.ofNat v] else UInt8.ofNat (v % 128 + 128) :: num (v / 128)
termination_by v
decreasing_by omega
theorem num_small {v : Nat} (h : v < 128) : num v = [UInt8.ofNat v] := by rw [num, if_pos h]
theorem num_great {v : Nat} (h : ¬ v < 128) : num v = UInt8.ofNat (v % 128 + 128) :: num (v / 128) := by rw [num, if_neg h]
theorem num_len : ∀ (f v : Nat), v < 128 ^ (f + 1) → (num v).length ≤ f + 1 ∧ 1 ≤ (num v).length
  | 0, v, h => by rw [num_small (by simpa using h)]; simp
  | f + 1, v, h => by
    by_cases h1 : v < 128
    · rw [num_small h1]; simp
    · rw [num_great h1]
      have := num_len f (v / 128) (by rw [Nat.div_lt_iff_lt_mul (by decide), ← Nat.pow_succ]; exact h)
      simp only [List.length_cons]
      omega
theorem num_ten {v : Nat} (h : v < 18446744073709551616) : (num v).length ≤ 10 ∧ 1 ≤ (num v).length := num_len 9 v (by omega)

/-- An int as a number, and back. -/
def fold (v : Int) : Nat := if v < 0 then (-2 * v - 1).toNat else (2 * v).toNat
def unf (v : Nat) : Int := if v % 2 = 1 then - ((v / 2 : Nat) : Int) - 1 else ((v / 2 : Nat) : Int)
theorem unf_fold (v : Int) : unf (fold v) = v := by
  unfold unf fold
  by_cases h : v < 0
  · rw [if_pos h, if_pos (by omega)]; omega
  · rw [if_neg h, if_neg (by omega)]; omega
theorem fold_lt {v : Int} (h : -9223372036854775808 ≤ v ∧ v ≤ 9223372036854775807) : fold v < 18446744073709551616 := by
  unfold fold
  split <;> omega
theorem unf_b {v : Nat} (h : v < 18446744073709551616) : -9223372036854775808 ≤ unf v ∧ unf v ≤ 9223372036854775807 := by
  unfold unf
  split <;> omega

/-- How many bytes ahead are 128 or more, up to f. -/
def ld : Nat → List UInt8 → Nat
  | 0, _ => 0
  | _ + 1, [] => 0
  | f + 1, b :: l => if 128 ≤ b.toNat then ld f l + 1 else 0
theorem ld_is : ∀ (f : Nat) (l : List UInt8) (n : Nat), n ≤ f → n ≤ l.length → (∀ i, i < n → 128 ≤ bt l i) → (n = f ∨ n = l.length ∨ bt l n < 128) → ld f l = n
  | 0, l, n, h, _, _, _ => by simp only [ld]; omega
  | f + 1, [], n, _, h, _, _ => by simp only [ld]; simp at h; omega
  | f + 1, b :: l, 0, _, _, _, h => by
    simp only [ld]
    have : b.toNat < 128 := by
      rcases h with h | h | h
      · omega
      · simp at h
      · simpa [bt_zero] using h
    rw [if_neg (by omega)]
  | f + 1, b :: l, n + 1, h1, h2, h3, h4 => by
    simp only [ld]
    have h0 := h3 0 (by omega)
    rw [bt_zero] at h0
    rw [if_pos h0, ld_is f l n (by omega) (by simp at h2; omega) (fun i hi => by have := h3 (i + 1) (by omega); rwa [bt_succ] at this) (by
      rcases h4 with h | h | h
      · exact .inl (by omega)
      · exact .inr (.inl (by simp at h; omega))
      · exact .inr (.inr (by rwa [bt_succ] at h)))]
theorem ld_ok : ∀ (f : Nat) (l : List UInt8), ld f l ≤ f ∧ ld f l ≤ l.length ∧ (∀ i, i < ld f l → 128 ≤ bt l i) ∧ (ld f l = f ∨ ld f l = l.length ∨ bt l (ld f l) < 128)
  | 0, l => by simp [ld]
  | f + 1, [] => by simp [ld]
  | f + 1, b :: l => by
    simp only [ld]
    obtain ⟨h1, h2, h3, h4⟩ := ld_ok f l
    by_cases h : 128 ≤ b.toNat
    · rw [if_pos h]
      refine ⟨by omega, by simp; omega, fun i hi => ?_, ?_⟩
      · match i with
        | 0 => rw [bt_zero]; exact h
        | i + 1 => rw [bt_succ]; exact h3 i (by omega)
      · rw [bt_succ]
        rcases h4 with h | h | h
        · exact .inl (by omega)
        · exact .inr (.inl (by simp; omega))
        · exact .inr (.inr h)
    · rw [if_neg h]
      exact ⟨by omega, by omega, fun i hi => by omega, .inr (.inr (by rw [bt_zero]; omega))⟩

/-- The number of the first k digits. -/
def val (l : List UInt8) : Nat → Nat
  | 0 => 0
  | k + 1 => val l k + bt l k % 128 * 128 ^ k
theorem val_lt (l : List UInt8) : ∀ k, val l k < 128 ^ k
  | 0 => by simp [val]
  | k + 1 => by
    have h1 := val_lt l k
    have h2 : bt l k % 128 < 128 := Nat.mod_lt _ (by decide)
    have h3 : (bt l k % 128 + 1) * 128 ^ k ≤ 128 * 128 ^ k := Nat.mul_le_mul_right _ h2
    rw [Nat.add_mul, Nat.one_mul] at h3
    rw [val, Nat.pow_succ]
    omega
theorem val_cons (b : UInt8) (l : List UInt8) : ∀ k, val (b :: l) (k + 1) = b.toNat % 128 + 128 * val l k
  | 0 => by simp [val, bt_zero]
  | k + 1 => by
    rw [val, val_cons b l k, bt_succ, val, Nat.mul_add, Nat.pow_succ, Nat.mul_comm (128 ^ k) 128, Nat.mul_left_comm]
    omega
theorem val_ten (l : List UInt8) {n : Nat} (hn : n ≤ 9) (h : n = 9 → bt l n ≤ 1) : val l (n + 1) < 18446744073709551616 := by
  by_cases h9 : n = 9
  · have h1 := h h9
    subst h9
    have h2 := val_lt l 9
    rw [val]
    have h3 : bt l 9 % 128 = bt l 9 := by omega
    rw [h3]
    have h4 : bt l 9 * 128 ^ 9 ≤ 1 * 128 ^ 9 := Nat.mul_le_mul_right _ h1
    omega
  · have h1 := val_lt l (n + 1)
    have h2 : (128 : Nat) ^ (n + 1) ≤ 128 ^ 9 := Nat.pow_le_pow_right (by decide) (by omega)
    omega
theorem val_append (l m : List UInt8) : ∀ k, k ≤ l.length → val (l ++ m) k = val l k
  | 0, _ => rfl
  | k + 1, h => by
    rw [val, val, val_append l m k (by omega)]
    have : bt (l ++ m) k = bt l k := by unfold bt; rw [List.getElem?_append_left (by omega)]
    rw [this]

/-- The number at the front: which, how many bytes it has, what is wrong. -/
def fst (l : List UInt8) : Nat × Nat × Nat :=
  if ld 10 l = 10 then (0, 0, 3) else if ld 10 l = l.length then (0, 0, 2)
  else if (ld 10 l = 9 ∧ 1 < bt l (ld 10 l)) ∨ (0 < ld 10 l ∧ bt l (ld 10 l) = 0) then (0, 0, 3) else (val l (ld 10 l + 1), ld 10 l + 1, 0)
theorem fst_many {l : List UInt8} (h1 : 10 ≤ l.length) (h : ∀ i, i < 10 → 128 ≤ bt l i) : fst l = (0, 0, 3) := by
  unfold fst
  rw [ld_is 10 l 10 (by omega) h1 h (.inl rfl), if_pos rfl]
theorem fst_short {l : List UInt8} (h1 : l.length < 10) (h : ∀ i, i < l.length → 128 ≤ bt l i) : fst l = (0, 0, 2) := by
  unfold fst
  rw [ld_is 10 l l.length (by omega) (by omega) h (.inr (.inl rfl)), if_neg (by omega), if_pos rfl]
theorem fst_bad {l : List UInt8} {n : Nat} (h0 : n < 10) (h1 : n < l.length) (h : ∀ i, i < n → 128 ≤ bt l i) (h2 : bt l n < 128) (hb : (n = 9 ∧ 1 < bt l n) ∨ (0 < n ∧ bt l n = 0)) : fst l = (0, 0, 3) := by
  unfold fst
  rw [ld_is 10 l n (by omega) (by omega) h (.inr (.inr h2)), if_neg (by omega), if_neg (by omega), if_pos hb]
theorem fst_good {l : List UInt8} {n : Nat} (h0 : n < 10) (h1 : n < l.length) (h : ∀ i, i < n → 128 ≤ bt l i) (h2 : bt l n < 128) (hb : ¬ ((n = 9 ∧ 1 < bt l n) ∨ (0 < n ∧ bt l n = 0))) : fst l = (val l (n + 1), n + 1, 0) := by
  unfold fst
  rw [ld_is 10 l n (by omega) (by omega) h (.inr (.inr h2)), if_neg (by omega), if_neg (by omega), if_neg hb]
theorem fst_cases (l : List UInt8) : fst l = (0, 0, 3) ∨ fst l = (0, 0, 2) ∨ ∃ n, n < 10 ∧ n < l.length ∧ (∀ i, i < n → 128 ≤ bt l i) ∧ bt l n < 128 ∧ ¬ ((n = 9 ∧ 1 < bt l n) ∨ (0 < n ∧ bt l n = 0)) ∧ fst l = (val l (n + 1), n + 1, 0) := by
  obtain ⟨h1, h2, h3, h4⟩ := ld_ok 10 l
  unfold fst
  generalize ld 10 l = n at *
  by_cases g1 : n = 10
  · rw [if_pos g1]; exact .inl rfl
  · rw [if_neg g1]
    by_cases g2 : n = l.length
    · rw [if_pos g2]; exact .inr (.inl rfl)
    · rw [if_neg g2]
      by_cases g3 : (n = 9 ∧ 1 < bt l n) ∨ (0 < n ∧ bt l n = 0)
      · rw [if_pos g3]; exact .inl rfl
      · rw [if_neg g3]
        exact .inr (.inr ⟨n, by omega, by omega, h3, by omega, g3, rfl⟩)
theorem fst_ok {l : List UInt8} {v t er : Nat} (h : fst l = (v, t, er)) : t ≤ l.length ∧ v < 18446744073709551616 ∧ (er ≠ 0 → v = 0 ∧ t = 0) ∧ er ≤ 3 ∧ t ≤ 10 := by
  rcases fst_cases l with e | e | ⟨n, h0, h1, _, _, hb, e⟩
  · rw [e] at h; simp at h; omega
  · rw [e] at h; simp at h; omega
  · rw [e] at h
    simp at h
    have := val_ten l (n := n) (by omega) (by omega)
    omega

/-- A number's bytes, one by one. -/
theorem num_form : ∀ (f v : Nat), v < 128 ^ (f + 1) → ∃ n, (num v).length = n + 1 ∧ (∀ i, i < n → 128 ≤ bt (num v) i) ∧ bt (num v) n < 128 ∧ (0 < n → bt (num v) n ≠ 0) ∧ val (num v) (n + 1) = v
  | 0, v, h => by
    have h' : v < 128 := by simpa using h
    rw [num_small h']
    refine ⟨0, rfl, fun i hi => by omega, ?_, by omega, ?_⟩
    · simp [bt]; omega
    · simp [val, bt]; omega
  | f + 1, v, h => by
    by_cases h1 : v < 128
    · exact num_form 0 v (by simpa using h1)
    · obtain ⟨n, k1, k2, k3, k4, k5⟩ := num_form f (v / 128) (by rw [Nat.div_lt_iff_lt_mul (by decide), ← Nat.pow_succ]; exact h)
      rw [num_great h1]
      have hb : (UInt8.ofNat (v % 128 + 128)).toNat = v % 128 + 128 := by simp; omega
      refine ⟨n + 1, by simp [k1], fun i hi => ?_, by rw [bt_succ]; exact k3, fun _ => ?_, ?_⟩
      · match i with
        | 0 => rw [bt_zero, hb]; omega
        | i + 1 => rw [bt_succ]; exact k2 i (by omega)
      · rw [bt_succ]
        intro h0
        match n, k2, k3, k4, k5 with
        | 0, _, _, _, k5 => simp [val, h0] at k5; omega
        | n + 1, _, _, k4, _ => exact k4 (by omega) h0
      · rw [val_cons, k5, hb]; omega

/-- What is written is read. -/
theorem fst_num {v : Nat} (hv : v < 18446744073709551616) (r : List UInt8) : fst (num v ++ r) = (v, (num v).length, 0) := by
  obtain ⟨n, k1, k2, k3, k4, k5⟩ := num_form 9 v (by omega)
  have hbt : ∀ i, i ≤ n → bt (num v ++ r) i = bt (num v) i := fun i hi => by unfold bt; rw [List.getElem?_append_left (by omega)]
  have hn := num_ten hv
  have hge : bt (num v) n * 128 ^ n ≤ v := by
    have : val (num v) (n + 1) = val (num v) n + bt (num v) n % 128 * 128 ^ n := rfl
    rw [k5, Nat.mod_eq_of_lt k3] at this
    omega
  rw [fst_good (n := n) (by omega) (by simp; omega) (fun i hi => by rw [hbt i (by omega)]; exact k2 i hi) (by rw [hbt n (by omega)]; exact k3) (by
    rw [hbt n (by omega)]
    rintro (⟨rfl, h⟩ | ⟨h1, h2⟩)
    · have : 2 * 128 ^ 9 ≤ bt (num v) 9 * 128 ^ 9 := Nat.mul_le_mul_right _ h
      omega
    · exact k4 h1 h2)]
  rw [val_append _ _ _ (by omega), k5, k1]

/-- What is read is written in the same bytes. -/
theorem num_val : ∀ (l : List UInt8) (n : Nat), n < l.length → (∀ i, i < n → 128 ≤ bt l i) → bt l n < 128 → (0 < n → bt l n ≠ 0) → num (val l (n + 1)) = l.take (n + 1)
  | [], n, h, _, _, _ => by simp at h
  | b :: l, 0, _, _, h, _ => by
    rw [bt_zero] at h
    have : val (b :: l) 1 = b.toNat := by simp [val, bt_zero]; omega
    rw [this, num_small h]
    simp
  | b :: l, n + 1, h0, h1, h2, h3 => by
    have hb := h1 0 (by omega)
    rw [bt_zero] at hb
    have hb2 : b.toNat < 256 := UInt8.toNat_lt b
    rw [bt_succ] at h2 h3
    have ih := num_val l n (by simp at h0; omega) (fun i hi => by have := h1 (i + 1) (by omega); rwa [bt_succ] at this) h2 (fun _ => h3 (by omega))
    have hpos : 1 ≤ val l (n + 1) := by
      rw [val]
      have : 1 * 1 ≤ bt l n % 128 * 128 ^ n := Nat.mul_le_mul (by have := h3 (by omega); omega) (Nat.pow_pos (by decide))
      omega
    rw [val_cons, num_great (by omega)]
    have e1 : (b.toNat % 128 + 128 * val l (n + 1)) % 128 + 128 = b.toNat := by omega
    have e2 : (b.toNat % 128 + 128 * val l (n + 1)) / 128 = val l (n + 1) := by omega
    rw [e1, e2, ih]
    simp
theorem num_fst {l : List UInt8} {v t : Nat} (h : fst l = (v, t, 0)) : num v = l.take t := by
  rcases fst_cases l with e | e | ⟨n, h0, h1, h2, h3, hb, e⟩
  · rw [e] at h; simp at h
  · rw [e] at h; simp at h
  · rw [e] at h
    simp at h
    obtain ⟨rfl, rfl⟩ := h
    exact num_val l n h1 h2 h3 (fun hn h => hb (.inr ⟨hn, h⟩))

/-- A number that is not above N, or what is wrong. -/
def bnd (l : List UInt8) (N : Int) (ab : Nat) : Nat × Nat × Nat :=
  if (fst l).2.2 ≠ 0 then (0, 0, (fst l).2.2) else if N < 0 ∨ N < ((fst l).1 : Int) then (0, 0, ab) else ((fst l).1, (fst l).2.1, 0)
/-- An int. -/
def rdI (l : List UInt8) : Int × Nat × Nat := (unf (fst l).1, (fst l).2.1, (fst l).2.2)
/-- N bytes. -/
def cutR (l : List UInt8) (a n : Nat) : List UInt8 × Nat × Nat := if l.length - a < n then ([], 0, 2) else ((l.drop a).take n, a + n, 0)
/-- A text of at most N bytes. -/
def rdT (l : List UInt8) (N : Int) : List UInt8 × Nat × Nat := if (bnd l N 5).2.2 ≠ 0 then ([], 0, (bnd l N 5).2.2) else cutR l (bnd l N 5).2.1 (bnd l N 5).1
/-- N bytes. -/
def rdR (l : List UInt8) (N : Int) : List UInt8 × Nat × Nat := if N < 0 then ([], 0, 1) else cutR l 0 N.toNat

theorem bnd_ok {l : List UInt8} {N : Int} {ab v t er : Nat} (h : bnd l N ab = (v, t, er)) : t ≤ l.length ∧ (er ≠ 0 → v = 0 ∧ t = 0) ∧ (er = 0 → (v : Int) ≤ N ∧ 0 ≤ N ∨ ab = 0) ∧ t ≤ 10 ∧ (v = 0 ∨ (v : Int) ≤ N) := by
  obtain ⟨h1, h2, h3, h4, h5⟩ := fst_ok (show fst l = ((fst l).1, (fst l).2.1, (fst l).2.2) from rfl)
  unfold bnd at h
  split at h
  · simp at h; omega
  · split at h
    · simp at h; omega
    · simp at h; omega
theorem cutR_ok {l x : List UInt8} {a n t er : Nat} (ha : a ≤ l.length) (h : cutR l a n = (x, t, er)) : t ≤ l.length ∧ (er ≠ 0 → x = [] ∧ t = 0) ∧ er ≤ 2 ∧ x.length ≤ l.length := by
  unfold cutR at h
  split at h
  · simp at h
    obtain ⟨rfl, rfl, rfl⟩ := h
    simp
  · simp at h
    obtain ⟨rfl, rfl, rfl⟩ := h
    simp
    omega

end Go.Proofs.Ytiiflegfbieblaa

namespace Go.Proofs.Ytiiflegfbieblaa
open Go.RowKit

/-- Is a byte a blank? -/
def blkN (c : Nat) : Bool := decide (c = 9) || (decide (c = 11) || (decide (c = 12) || (decide (c = 13) || decide (c = 32))))
def blk (b : UInt8) : Bool := blkN b.toNat
/-- The bytes from a on, below b. -/
def cutL (l : List UInt8) (a b : Nat) : List UInt8 := (l.take b).drop a
theorem cutL_len (l : List UInt8) {a b : Nat} (h : a ≤ b) (hb : b ≤ l.length) : (cutL l a b).length = b - a := by simp [cutL]; omega
theorem cutL_nil (l : List UInt8) {a b : Nat} (h : b ≤ a) : cutL l a b = [] := by simp [cutL]; omega
theorem cutL_ne (l : List UInt8) {a b : Nat} (h : a < b) (hb : b ≤ l.length) : cutL l a b ≠ [] := fun e => by
  have := congrArg List.length e
  rw [cutL_len l (by omega) hb] at this
  simp at this; omega
theorem bt_get (l : List UInt8) {i : Nat} (h : i < l.length) : bt l i = (l[i]'h).toNat := by unfold bt; rw [List.getElem?_eq_getElem h]; rfl
theorem cutL_snoc (l : List UInt8) {a i : Nat} (h : a ≤ i) (hi : i < l.length) : cutL l a (i + 1) = cutL l a i ++ [l[i]'hi] := by
  unfold cutL
  rw [List.take_succ_eq_append_getElem hi, List.drop_append_of_le_length (by simp; omega)]

/-- The pieces, cur being what stands ahead without a blank. -/
def pcs : List UInt8 → List UInt8 → List (List UInt8)
  | cur, [] => if cur = [] then [] else [cur]
  | cur, c :: t => if blk c then (if cur = [] then pcs [] t else cur :: pcs [] t) else pcs (cur ++ [c]) t
/-- The pieces from s on, at i. -/
def pcA (l : List UInt8) (s i : Nat) : List (List UInt8) := pcs (cutL l s i) (l.drop i)
theorem pcA_zero (l : List UInt8) : pcA l 0 0 = pcs [] l := by simp [pcA, cutL]
theorem pcA_go {l : List UInt8} {s i : Nat} (hs : s ≤ i) (hi : i < l.length) (hb : blkN (bt l i) = false) : pcA l s i = pcA l s (i + 1) := by
  rw [bt_get l hi] at hb
  unfold pcA
  rw [List.drop_eq_getElem_cons hi, pcs, show blk (l[i]'hi) = false from hb, cutL_snoc l hs hi]
  simp
theorem pcA_cut {l : List UInt8} {s i : Nat} (hs : s < i) (hi : i < l.length) (hb : blkN (bt l i) = true) : pcA l s i = cutL l s i :: pcA l (i + 1) (i + 1) := by
  rw [bt_get l hi] at hb
  unfold pcA
  rw [List.drop_eq_getElem_cons hi, pcs, show blk (l[i]'hi) = true from hb, if_pos rfl, if_neg (cutL_ne l hs (by omega)), cutL_nil l (Nat.le_refl _)]
theorem pcA_skip {l : List UInt8} {i : Nat} (hi : i < l.length) (hb : blkN (bt l i) = true) : pcA l i i = pcA l (i + 1) (i + 1) := by
  rw [bt_get l hi] at hb
  unfold pcA
  rw [List.drop_eq_getElem_cons hi, pcs, show blk (l[i]'hi) = true from hb, if_pos rfl, if_pos (cutL_nil l (Nat.le_refl _)), cutL_nil l (Nat.le_refl _)]
theorem pcA_last {l : List UInt8} {s : Nat} (hs : s < l.length) : pcA l s l.length = [cutL l s l.length] := by
  unfold pcA
  rw [List.drop_length, pcs, if_neg (cutL_ne l hs (Nat.le_refl _))]
theorem pcA_none (l : List UInt8) : pcA l l.length l.length = [] := by
  unfold pcA
  rw [List.drop_length, pcs, if_pos (cutL_nil l (Nat.le_refl _))]
/-- A run without blanks. -/
theorem pcA_run {l : List UInt8} {i : Nat} : ∀ n : Nat, i + n ≤ l.length → (∀ j, j < n → blkN (bt l (i + j)) = false) → pcA l i i = pcA l i (i + n)
  | 0, _, _ => rfl
  | n + 1, h, hb => by
    rw [pcA_run n (by omega) fun j hj => hb j (by omega), ← Nat.add_assoc]
    exact pcA_go (by omega) (by omega) (hb n (by omega))
theorem pcA_word {l : List UInt8} {i n : Nat} (h0 : 0 < n) (h : i + n ≤ l.length) (hb : ∀ j, j < n → blkN (bt l (i + j)) = false) (he : i + n = l.length ∨ (i + n < l.length ∧ blkN (bt l (i + n)) = true)) :
    pcA l i i = cutL l i (i + n) :: pcA l (i + n) (i + n) := by
  rw [pcA_run n h hb]
  rcases he with he | ⟨he, h1⟩
  · rw [he, pcA_last (by omega), pcA_none]
  · rw [pcA_cut (by omega) he h1, pcA_skip he h1]

def mkB : List UInt8 := [60, 115, 62]
def mkE : List UInt8 := [60, 47, 115, 62]
def unkW : List UInt8 := [60, 117, 110, 107, 62]
def isMark (p : List UInt8) : Bool := decide (p = mkB) || decide (p = mkE)
/-- The word that a piece is. -/
def wd1 (p : List UInt8) : List UInt8 := if 255 < p.length then unkW else p
theorem wd1_mark {p : List UInt8} : isMark (wd1 p) = isMark p := by
  unfold wd1
  split
  · next h =>
    have h1 : p ≠ mkB := fun e => by rw [e] at h; simp [mkB] at h
    have h2 : p ≠ mkE := fun e => by rw [e] at h; simp [mkE] at h
    rw [show isMark unkW = false by decide]
    unfold isMark
    rw [decide_eq_false h1, decide_eq_false h2]; rfl
  · rfl
def wds : List (List UInt8) → List (List UInt8)
  | [] => []
  | p :: ps => if isMark p then wds ps else wd1 p :: wds ps
theorem wds_append (a b : List (List UInt8)) : wds (a ++ b) = wds a ++ wds b := by
  induction a with
  | nil => rfl
  | cons p a ih => rw [List.cons_append, wds, wds, ih]; split <;> rfl
theorem wds_mark (a : List (List UInt8)) {p : List UInt8} (h : isMark p = true) : wds (a ++ [p]) = wds a := by rw [wds_append, wds, if_pos h, wds, List.append_nil]
theorem wds_word (a : List (List UInt8)) {p : List UInt8} (h : isMark p = false) : wds (a ++ [p]) = wds a ++ [wd1 p] := by rw [wds_append, wds, if_neg (by rw [h]; decide), wds]
theorem wds_len (a : List (List UInt8)) : (wds a).length ≤ a.length := by
  induction a with
  | nil => exact Nat.le_refl _
  | cons p a ih => rw [wds]; split <;> simp <;> omega
/-- The words of a line. -/
def wordsOf (l : List UInt8) : List (List UInt8) := wds (pcs [] l)
theorem pcs_len : ∀ (t cur : List UInt8), (pcs cur t).length ≤ cur.length + t.length
  | [], cur => by
    rw [pcs]
    cases cur <;> simp
  | c :: t, cur => by
    rw [pcs]
    have h1 := pcs_len t []
    have h2 := pcs_len t (cur ++ [c])
    simp at h1 h2
    split
    · cases cur <;> simp <;> omega
    · simp; omega
theorem pcs_in : ∀ (t cur : List UInt8), (∀ c ∈ cur, blk c = false) → ∀ p ∈ pcs cur t, p ≠ [] ∧ ∀ c ∈ p, blk c = false ∧ (c ∈ cur ∨ c ∈ t)
  | [], cur, h, p, hp => by
    rw [pcs] at hp
    split at hp
    · cases hp
    · next hn =>
      have : p = cur := by simpa using hp
      subst this
      exact ⟨hn, fun c hc => ⟨h c hc, .inl hc⟩⟩
  | c :: t, cur, h, p, hp => by
    rw [pcs] at hp
    split at hp
    · have h0 := pcs_in t [] (fun _ h => by cases h)
      split at hp
      · obtain ⟨h1, h2⟩ := h0 p hp
        exact ⟨h1, fun c hc => ⟨(h2 c hc).1, .inr ((h2 c hc).2.elim (fun h => by cases h) (List.mem_cons_of_mem _))⟩⟩
      · next hn =>
        rcases List.mem_cons.1 hp with rfl | hp
        · exact ⟨hn, fun c hc => ⟨h c hc, .inl hc⟩⟩
        · obtain ⟨h1, h2⟩ := h0 p hp
          exact ⟨h1, fun c hc => ⟨(h2 c hc).1, .inr ((h2 c hc).2.elim (fun h => by cases h) (List.mem_cons_of_mem _))⟩⟩
    · next hn =>
      obtain ⟨h1, h2⟩ := pcs_in t (cur ++ [c]) (fun x hx => by
        rcases List.mem_append.1 hx with hx | hx
        · exact h x hx
        · rw [List.mem_singleton.1 hx]; simpa using hn) p hp
      refine ⟨h1, fun x hx => ⟨(h2 x hx).1, ?_⟩⟩
      rcases (h2 x hx).2 with h3 | h3
      · rcases List.mem_append.1 h3 with h3 | h3
        · exact .inl h3
        · exact .inr (by rw [List.mem_singleton.1 h3]; exact List.mem_cons_self)
      · exact .inr (List.mem_cons_of_mem _ h3)
/-- May a text be a word? -/
def rightW (p : List UInt8) : Bool := p.all (fun c => !blk c && decide (c.toNat ≠ 10)) && (decide (p ≠ []) && (decide (p.length ≤ 255) && !isMark p))
theorem rightW_unk : rightW unkW = true := by decide
theorem wds_right : ∀ (ps : List (List UInt8)), (∀ p ∈ ps, p ≠ [] ∧ ∀ c ∈ p, blk c = false ∧ c.toNat ≠ 10) → ∀ x ∈ wds ps, rightW x = true
  | [], _, x, hx => by cases hx
  | p :: ps, h, x, hx => by
    rw [wds] at hx
    have ih := wds_right ps fun q hq => h q (List.mem_cons_of_mem _ hq)
    split at hx
    · exact ih x hx
    · next hm =>
      rcases List.mem_cons.1 hx with rfl | hx
      · obtain ⟨h1, h2⟩ := h p List.mem_cons_self
        unfold wd1
        split
        · exact rightW_unk
        · unfold rightW
          simp only [Bool.and_eq_true, List.all_eq_true, Bool.not_eq_true', decide_eq_true_eq]
          exact ⟨fun c hc => h2 c hc, h1, by omega, by simpa using hm⟩
      · exact ih x hx
theorem words_right {l : List UInt8} (h : ∀ c ∈ l, c.toNat ≠ 10) : ∀ x ∈ wordsOf l, rightW x = true :=
  wds_right _ fun p hp => by
    obtain ⟨h1, h2⟩ := pcs_in l [] (fun _ h => by cases h) p hp
    exact ⟨h1, fun c hc => ⟨(h2 c hc).1, h c ((h2 c hc).2.elim (fun h => by cases h) id)⟩⟩

/-- The lines, cur being what stands ahead. -/
def lns : List UInt8 → List UInt8 → List (List UInt8)
  | cur, [] => [cur]
  | cur, c :: t => if c.toNat = 10 then cur :: lns [] t else lns (cur ++ [c]) t
def lnA (l : List UInt8) (s i : Nat) : List (List UInt8) := lns (cutL l s i) (l.drop i)
theorem lnA_zero (l : List UInt8) : lnA l 0 0 = lns [] l := by simp [lnA, cutL]
theorem lnA_go {l : List UInt8} {s i : Nat} (hs : s ≤ i) (hi : i < l.length) (hb : bt l i ≠ 10) : lnA l s i = lnA l s (i + 1) := by
  rw [bt_get l hi] at hb
  unfold lnA
  rw [List.drop_eq_getElem_cons hi, lns, if_neg hb, cutL_snoc l hs hi]
theorem lnA_cut {l : List UInt8} {s i : Nat} (hi : i < l.length) (hb : bt l i = 10) : lnA l s i = cutL l s i :: lnA l (i + 1) (i + 1) := by
  rw [bt_get l hi] at hb
  unfold lnA
  rw [List.drop_eq_getElem_cons hi, lns, if_pos hb, cutL_nil l (Nat.le_refl (i + 1))]
theorem lnA_last (l : List UInt8) (s : Nat) : lnA l s l.length = [l.drop s] := by
  unfold lnA
  rw [List.drop_length, lns, cutL, List.take_length]
theorem lns_len : ∀ (t cur : List UInt8), 1 ≤ (lns cur t).length ∧ (lns cur t).length ≤ t.length + 1
  | [], cur => by simp [lns]
  | c :: t, cur => by
    rw [lns]
    have h1 := lns_len t []
    have h2 := lns_len t (cur ++ [c])
    split <;> simp <;> omega
theorem lns_in : ∀ (t cur : List UInt8), (∀ c ∈ cur, c.toNat ≠ 10) → ∀ x ∈ lns cur t, ∀ c ∈ x, c.toNat ≠ 10
  | [], cur, h, x, hx => by
    have : x = cur := by simpa [lns] using hx
    subst this; exact h
  | c :: t, cur, h, x, hx => by
    rw [lns] at hx
    split at hx
    · rcases List.mem_cons.1 hx with rfl | hx
      · exact h
      · exact lns_in t [] (fun _ h => by cases h) x hx
    · next hn =>
      exact lns_in t (cur ++ [c]) (fun y hy => by
        rcases List.mem_append.1 hy with hy | hy
        · exact h y hy
        · rw [List.mem_singleton.1 hy]; exact hn) x hx
theorem lns_size : ∀ (t cur : List UInt8), ∀ x ∈ lns cur t, x.length ≤ cur.length + t.length
  | [], cur, x, hx => by
    have : x = cur := by simpa [lns] using hx
    subst this; omega
  | c :: t, cur, x, hx => by
    rw [lns] at hx
    split at hx
    · rcases List.mem_cons.1 hx with rfl | hx
      · omega
      · have := lns_size t [] x hx
        simp at this ⊢; omega
    · have := lns_size t (cur ++ [c]) x hx
      simp at this ⊢; omega
theorem lns_free : ∀ (t cur : List UInt8), (∀ c ∈ t, c.toNat ≠ 10) → lns cur t = [cur ++ t]
  | [], cur, _ => by simp [lns]
  | c :: t, cur, h => by rw [lns, if_neg (h c List.mem_cons_self), lns_free t _ fun x hx => h x (List.mem_cons_of_mem _ hx)]; simp
theorem lns_at : ∀ (x cur : List UInt8) (t : List UInt8), (∀ c ∈ x, c.toNat ≠ 10) → lns cur (x ++ 10 :: t) = (cur ++ x) :: lns [] t
  | [], cur, t, _ => by rw [List.nil_append, lns, if_pos (by decide), List.append_nil]
  | c :: x, cur, t, h => by rw [List.cons_append, lns, if_neg (h c List.mem_cons_self), lns_at x _ t fun y hy => h y (List.mem_cons_of_mem _ hy)]; simp

/-- The sentences of lines. -/
def snt : List (List UInt8) → List (List (List UInt8))
  | [] => []
  | x :: xs => if wordsOf x = [] then snt xs else wordsOf x :: snt xs
theorem snt_append (a b : List (List UInt8)) : snt (a ++ b) = snt a ++ snt b := by
  induction a with
  | nil => rfl
  | cons p a ih => rw [List.cons_append, snt, snt, ih]; split <;> rfl
theorem snt_none (a : List (List UInt8)) {x : List UInt8} (h : wordsOf x = []) : snt (a ++ [x]) = snt a := by rw [snt_append, snt, if_pos h, snt, List.append_nil]
theorem snt_some (a : List (List UInt8)) {x : List UInt8} (h : wordsOf x ≠ []) : snt (a ++ [x]) = snt a ++ [wordsOf x] := by rw [snt_append, snt, if_neg h, snt]
theorem snt_len (a : List (List UInt8)) : (snt a).length ≤ a.length := by
  induction a with
  | nil => exact Nat.le_refl _
  | cons p a ih => rw [snt]; split <;> simp <;> omega
theorem snt_in : ∀ (xs : List (List UInt8)), ∀ s ∈ snt xs, s ≠ [] ∧ ∃ x ∈ xs, s = wordsOf x
  | [], s, hs => by cases hs
  | x :: xs, s, hs => by
    rw [snt] at hs
    split at hs
    · obtain ⟨h1, y, h2, h3⟩ := snt_in xs s hs
      exact ⟨h1, y, List.mem_cons_of_mem _ h2, h3⟩
    · next hn =>
      rcases List.mem_cons.1 hs with rfl | hs
      · exact ⟨hn, x, List.mem_cons_self, rfl⟩
      · obtain ⟨h1, y, h2, h3⟩ := snt_in xs s hs
        exact ⟨h1, y, List.mem_cons_of_mem _ h2, h3⟩
/-- The sentences of a text. -/
def allS (l : List UInt8) : List (List (List UInt8)) := snt (lns [] l)
theorem allS_right (l : List UInt8) : ∀ s ∈ allS l, s ≠ [] ∧ s.length ≤ l.length ∧ ∀ x ∈ s, rightW x = true := fun s hs => by
  obtain ⟨h1, y, h2, rfl⟩ := snt_in _ s hs
  refine ⟨h1, ?_, words_right (lns_in l [] (fun _ h => by cases h) y h2)⟩
  have h3 := wds_len (pcs [] y)
  have h4 := pcs_len y []
  have h5 := lns_size l [] y h2
  simp at h4 h5
  unfold wordsOf; omega

/-- Words with a blank between any two. -/
def jn (f : Nat → List UInt8) : Nat → List UInt8
  | 0 => []
  | k + 1 => (if 0 < k then jn f k ++ [32] else jn f k) ++ f k
theorem pcs_split : ∀ (s cur t : List UInt8), pcs cur (s ++ 32 :: t) = pcs cur s ++ pcs [] t
  | [], cur, t => by
    rw [List.nil_append, pcs, pcs, if_pos (show blk 32 = true by decide)]
    split <;> rfl
  | c :: s, cur, t => by
    rw [List.cons_append, pcs, pcs]
    have h1 := pcs_split s [] t
    have h2 := pcs_split s (cur ++ [c]) t
    rw [h1, h2]
    split
    · split <;> rfl
    · rfl
theorem pcs_free : ∀ (t cur : List UInt8), (∀ c ∈ t, blk c = false) → cur ++ t ≠ [] → pcs cur t = [cur ++ t]
  | [], cur, _, h => by rw [List.append_nil] at h ⊢; rw [pcs, if_neg h]
  | c :: t, cur, h, _ => by
    rw [pcs, h c List.mem_cons_self, if_neg (by decide), pcs_free t _ (fun x hx => h x (List.mem_cons_of_mem _ hx)) (by simp)]
    simp
theorem pcs_jn (f : Nat → List UInt8) : ∀ k, (∀ j, j < k → f j ≠ [] ∧ ∀ c ∈ f j, blk c = false) → pcs [] (jn f k) = (List.range k).map f
  | 0, _ => by simp [jn, pcs]
  | k + 1, h => by
    have ih := pcs_jn f k fun j hj => h j (by omega)
    obtain ⟨h1, h2⟩ := h k (by omega)
    have h3 := pcs_free (f k) [] h2 (by simpa using h1)
    rw [List.nil_append] at h3
    rw [jn, List.range_succ, List.map_append]
    by_cases hk : 0 < k
    · rw [if_pos hk, List.append_assoc, List.singleton_append, pcs_split, ih, h3]; rfl
    · obtain rfl : k = 0 := by omega
      simpa [jn] using h3
theorem wds_id : ∀ ps : List (List UInt8), (∀ p ∈ ps, isMark p = false ∧ p.length ≤ 255) → wds ps = ps
  | [], _ => rfl
  | p :: ps, h => by
    obtain ⟨h1, h2⟩ := h p List.mem_cons_self
    rw [wds, if_neg (by rw [h1]; decide), wds_id ps fun q hq => h q (List.mem_cons_of_mem _ hq), wd1, if_neg (by omega)]
theorem right_parts {p : List UInt8} (h : rightW p = true) : p ≠ [] ∧ (∀ c ∈ p, blk c = false) ∧ isMark p = false ∧ p.length ≤ 255 := by
  unfold rightW at h
  simp only [Bool.and_eq_true, List.all_eq_true, Bool.not_eq_true', decide_eq_true_eq] at h
  exact ⟨h.2.1, fun c hc => (h.1 c hc).1, h.2.2.2, h.2.2.1⟩
theorem words_jn (f : Nat → List UInt8) (k : Nat) (h : ∀ j, j < k → rightW (f j) = true) : wordsOf (jn f k) = (List.range k).map f := by
  unfold wordsOf
  rw [pcs_jn f k fun j hj => ⟨(right_parts (h j hj)).1, (right_parts (h j hj)).2.1⟩]
  refine wds_id _ fun p hp => ?_
  obtain ⟨j, hj, rfl⟩ := List.mem_map.1 hp
  have := right_parts (h j (List.mem_range.1 hj))
  exact ⟨this.2.2.1, this.2.2.2⟩
theorem jn_len (f : Nat → List UInt8) (B : Nat) : ∀ k, (∀ j, j < k → (f j).length ≤ B) → (jn f k).length ≤ k * (B + 1)
  | 0, _ => by simp [jn]
  | k + 1, h => by
    have ih := jn_len f B k fun j hj => h j (by omega)
    have := h k (by omega)
    rw [jn, Nat.succ_mul]
    split <;> simp <;> omega
end Go.Proofs.Ytiiflegfbieblaa

namespace Go.Proofs.Ytiiflegfbieblaa
open Go.RowKit

/-- The number of a text in a list. -/
def fnd (ts : List (List UInt8)) (s : List UInt8) : Int := if s ∈ ts then (ts.idxOf s : Int) else -1
/-- The list behind a text that comes. -/
def putN (ts : List (List UInt8)) (s : List UInt8) : List (List UInt8) := if s ∈ ts then ts else ts ++ [s]
def putAll (ts l : List (List UInt8)) : List (List UInt8) := l.foldl putN ts
theorem fnd_none {ts : List (List UInt8)} {s : List UInt8} (h : s ∉ ts) : fnd ts s = -1 := if_neg h
theorem fnd_some {ts : List (List UInt8)} {s : List UInt8} (h : s ∈ ts) : fnd ts s = (ts.idxOf s : Int) := if_pos h
theorem fnd_lt {ts : List (List UInt8)} {s : List UInt8} : -1 ≤ fnd ts s ∧ fnd ts s < ts.length := by
  by_cases h : s ∈ ts
  · rw [fnd_some h]; have := List.idxOf_lt_length_of_mem h; omega
  · rw [fnd_none h]; omega
theorem getD_mem {ts : List (List UInt8)} {i : Nat} (h : i < ts.length) : ts.getD i [] ∈ ts := by
  rw [List.getD_eq_getElem?_getD, List.getElem?_eq_getElem h]; exact List.getElem_mem h
theorem getD_idx {ts : List (List UInt8)} {s : List UInt8} (h : s ∈ ts) : ts.getD (ts.idxOf s) [] = s := by
  have hl := List.idxOf_lt_length_of_mem h
  rw [List.getD_eq_getElem?_getD, List.getElem?_eq_getElem hl]
  simp
/-- Unlike each other. -/
theorem fnd_at {ts : List (List UInt8)} (hd : ts.Nodup) {i : Nat} (hi : i < ts.length) {s : List UInt8} (e : ts.getD i [] = s) : fnd ts s = i := by
  have hm : s ∈ ts := by rw [← e]; exact getD_mem hi
  rw [fnd_some hm]
  have h1 := getD_idx hm
  have hl := List.idxOf_lt_length_of_mem hm
  rw [List.getD_eq_getElem?_getD, List.getElem?_eq_getElem hl] at h1
  rw [List.getD_eq_getElem?_getD, List.getElem?_eq_getElem hi] at e
  simp only [Option.getD_some] at h1 e
  have hp := List.pairwise_iff_getElem.1 hd
  rcases Nat.lt_trichotomy (ts.idxOf s) i with h | h | h
  · exact absurd (h1.trans e.symm) (hp _ _ hl hi h)
  · rw [h]
  · exact absurd (e.trans h1.symm) (hp _ _ hi hl h)
/-- The first one that is like it. -/
theorem fnd_first {ts : List (List UInt8)} {i : Nat} (hi : i < ts.length) {s : List UInt8} (e : ts.getD i [] = s) (hn : ∀ j, j < i → ts.getD j [] ≠ s) : fnd ts s = i := by
  have hm : s ∈ ts := by rw [← e]; exact getD_mem hi
  rw [fnd_some hm]
  have h1 := getD_idx hm
  rcases Nat.lt_trichotomy (ts.idxOf s) i with h | h | h
  · exact absurd h1 (hn _ h)
  · rw [h]
  · exfalso
    have := List.not_of_lt_findIdx (p := (· == s)) (xs := ts) (i := i) h
    rw [List.getD_eq_getElem?_getD, List.getElem?_eq_getElem hi] at e
    simp only [Option.getD_some] at e
    rw [e] at this
    simp at this
theorem fnd_not {ts : List (List UInt8)} {s : List UInt8} (hn : ∀ j, j < ts.length → ts.getD j [] ≠ s) : fnd ts s = -1 := by
  refine fnd_none fun hm => ?_
  exact hn _ (List.idxOf_lt_length_of_mem hm) (getD_idx hm)
theorem fnd_neg {ts : List (List UInt8)} {s : List UInt8} (h : fnd ts s < 0) : s ∉ ts := fun hm => by
  rw [fnd_some hm] at h; omega
theorem fnd_pos {ts : List (List UInt8)} {s : List UInt8} (h : ¬ fnd ts s < 0) : s ∈ ts := Classical.byContradiction fun hm => by
  rw [fnd_none hm] at h; omega
theorem putN_in {ts : List (List UInt8)} {s : List UInt8} (h : s ∈ ts) : putN ts s = ts := if_pos h
theorem putN_new {ts : List (List UInt8)} {s : List UInt8} (h : s ∉ ts) : putN ts s = ts ++ [s] := if_neg h
theorem putN_nodup {ts : List (List UInt8)} (h : ts.Nodup) (s : List UInt8) : (putN ts s).Nodup := by
  by_cases hm : s ∈ ts
  · rw [putN_in hm]; exact h
  · rw [putN_new hm]
    exact List.nodup_append.2 ⟨h, by simp, fun a ha b hb => by
      simp at hb; subst hb
      exact fun e => hm (e ▸ ha)⟩
theorem putN_len (ts : List (List UInt8)) (s : List UInt8) : (putN ts s).length ≤ ts.length + 1 ∧ ts.length ≤ (putN ts s).length := by
  by_cases hm : s ∈ ts
  · rw [putN_in hm]; omega
  · rw [putN_new hm]; simp
theorem fnd_new {ts : List (List UInt8)} {s : List UInt8} (h : s ∉ ts) : fnd (ts ++ [s]) s = ts.length := by
  refine fnd_first (by simp) (by simp) fun j hj e => h ?_
  rw [List.getD_eq_getElem?_getD, List.getElem?_append_left hj, List.getElem?_eq_getElem hj] at e
  simp only [Option.getD_some] at e
  rw [← e]; exact List.getElem_mem hj
/-- What a put tells: the number that the text has behind it. -/
theorem put_tells (ts : List (List UInt8)) (s : List UInt8) : fnd (putN ts s) s = if s ∈ ts then fnd ts s else (ts.length : Int) := by
  by_cases h : s ∈ ts
  · rw [putN_in h, if_pos h]
  · rw [putN_new h, if_neg h, fnd_new h]
theorem putAll_nil (ts : List (List UInt8)) : putAll ts [] = ts := rfl
theorem putAll_snoc (ts l : List (List UInt8)) (s : List UInt8) : putAll ts (l ++ [s]) = putN (putAll ts l) s := by simp [putAll]
theorem putAll_nodup (l : List (List UInt8)) : ∀ {ts : List (List UInt8)}, ts.Nodup → (putAll ts l).Nodup := by
  induction l with
  | nil => intro ts h; exact h
  | cons s l ih => intro ts h; exact ih (putN_nodup h s)
theorem putAll_len (l : List (List UInt8)) : ∀ (ts : List (List UInt8)), (putAll ts l).length ≤ ts.length + l.length := by
  induction l with
  | nil => intro ts; simp [putAll]
  | cons s l ih => intro ts; have h1 := ih (putN ts s); have h2 := (putN_len ts s).1; simp [putAll] at h1 ⊢; omega

/-- How many slots there are. -/
def slN : Nat → Nat
  | 0 => 8
  | n + 1 => if slN n < 2 * (n + 1) then 2 * slN n else slN n
theorem slN_pow : ∀ n : Nat, ∃ k, slN n = 2 ^ (k + 3)
  | 0 => ⟨0, rfl⟩
  | n + 1 => by
    obtain ⟨k, hk⟩ := slN_pow n
    unfold slN
    split
    · exact ⟨k + 1, by rw [hk, show k + 1 + 3 = (k + 3) + 1 from by omega, Nat.pow_succ' (n := k + 3)]⟩
    · exact ⟨k, hk⟩
theorem slN_even (n : Nat) : slN n % 8 = 0 ∧ 8 ≤ slN n := by
  obtain ⟨k, hk⟩ := slN_pow n
  have : slN n = 8 * 2 ^ k := by rw [hk, Nat.pow_add]; omega
  have h2 := Nat.two_pow_pos k
  omega
theorem slN_ge : ∀ n : Nat, 2 * n ≤ slN n ∧ (slN n = 8 ∨ slN n < 4 * n)
  | 0 => ⟨by simp [slN], .inl rfl⟩
  | n + 1 => by
    obtain ⟨h1, h2⟩ := slN_ge n
    have h3 := slN_even n
    unfold slN
    split
    · omega
    · omega
theorem slN_le (n : Nat) : slN n ≤ 4 * n + 8 := by have := (slN_ge n).2; omega
theorem pow_half {a b : Nat} (h : 2 ^ a < 2 ^ b) : 2 * 2 ^ a ≤ 2 ^ b := by
  have hab : a < b := (Nat.pow_lt_pow_iff_right (by decide)).1 h
  have := Nat.pow_le_pow_right (n := 2) (by decide) (show a + 1 ≤ b from hab)
  rw [Nat.pow_succ] at this
  omega
/-- The document's way: doubled as long as they are too few. -/
theorem sl_next {n k : Nat} (h : 2 ^ (k + 3) < 2 * n) (hle : 2 ^ (k + 3) ≤ slN n) : 2 ^ (k + 1 + 3) ≤ slN n := by
  obtain ⟨b, hb⟩ := slN_pow n
  have h1 := (slN_ge n).1
  rw [hb] at h1 hle ⊢
  have := pow_half (show 2 ^ (k + 3) < 2 ^ (b + 3) by omega)
  rw [show k + 1 + 3 = (k + 3) + 1 from by omega, Nat.pow_succ]
  omega
theorem sl_end {n k : Nat} (h : ¬ 2 ^ (k + 3) < 2 * n) (hle : 2 ^ (k + 3) ≤ slN n) : 2 ^ (k + 3) = slN n := by
  obtain ⟨b, hb⟩ := slN_pow n
  have h1 := (slN_ge n).2
  have h8 : 8 ≤ 2 ^ (k + 3) := by have := Nat.two_pow_pos k; rw [Nat.pow_add]; omega
  rw [hb] at h1 hle ⊢
  by_cases hlt : 2 ^ (k + 3) < 2 ^ (b + 3)
  · have := pow_half hlt
    omega
  · omega

/-- One slot set. -/
def setF (f : Nat → Nat) (p v : Nat) : Nat → Nat := fun k => if k = p then v else f k
theorem setF_same (f : Nat → Nat) (p v : Nat) : setF f p v p = v := if_pos rfl
theorem setF_other (f : Nat → Nat) {p k : Nat} (v : Nat) (h : k ≠ p) : setF f p v k = f k := if_neg h
/-- How many slots are taken. -/
def cnt (f : Nat → Nat) : Nat → Nat
  | 0 => 0
  | k + 1 => cnt f k + (if f k = 0 then 0 else 1)
theorem cnt_zero : ∀ m : Nat, cnt (fun _ => 0) m = 0
  | 0 => rfl
  | m + 1 => by simp [cnt, cnt_zero m]
theorem cnt_free (f : Nat → Nat) : ∀ m : Nat, cnt f m < m → ∃ p, p < m ∧ f p = 0
  | 0, h => by simp [cnt] at h
  | m + 1, h => by
    by_cases h0 : f m = 0
    · exact ⟨m, by omega, h0⟩
    · simp [cnt, h0] at h
      obtain ⟨p, hp, h1⟩ := cnt_free f m h
      exact ⟨p, by omega, h1⟩
theorem cnt_setF (f : Nat → Nat) (p v : Nat) : ∀ m : Nat, cnt (setF f p v) m ≤ cnt f m + (if p < m then 1 else 0)
  | 0 => by simp [cnt]
  | m + 1 => by
    have ih := cnt_setF f p v m
    by_cases hpm : m = p
    · subst hpm
      simp only [cnt, Nat.lt_irrefl, if_false] at ih ⊢
      split <;> split <;> simp <;> omega
    · simp only [cnt, setF_other f v hpm] at ih ⊢
      have h1 : (if p < m + 1 then 1 else 0) = (if p < m then 1 else 0) := by
        by_cases hlt : p < m
        · rw [if_pos hlt, if_pos (by omega)]
        · rw [if_neg hlt, if_neg (by omega)]
      rw [h1]
      generalize (if p < m then 1 else 0) = u at *
      generalize (if f m = 0 then 0 else 1) = u2 at *
      omega
theorem least {P : Nat → Prop} : ∀ n : Nat, P n → ∃ j, j ≤ n ∧ P j ∧ ∀ k, k < j → ¬ P k := fun n => by
  induction n using Nat.strongRecOn with
  | _ n ih =>
    intro hn
    by_cases h : ∃ k, k < n ∧ P k
    · obtain ⟨k, hk, hp⟩ := h
      obtain ⟨j, hj, h1, h2⟩ := ih k hk hp
      exact ⟨j, by omega, h1, h2⟩
    · exact ⟨n, Nat.le_refl _, hn, fun k hk hp => h ⟨k, hk, hp⟩⟩
/-- Any slot is met from anywhere. -/
theorem met {m : Nat} (a : Nat) {p : Nat} (hp : p < m) : ∃ j, j < m ∧ (a + j) % m = p := by
  have hm : a % m < m := Nat.mod_lt _ (by omega)
  refine ⟨(p + (m - a % m)) % m, Nat.mod_lt _ (by omega), ?_⟩
  rw [Nat.add_mod_mod]
  have h1 : a + (p + (m - a % m)) = p + m * (a / m + 1) := by
    have := Nat.div_add_mod a m
    rw [Nat.mul_add, Nat.mul_one]
    omega
  rw [h1, Nat.add_mul_mod_self_left, Nat.mod_eq_of_lt hp]

/-- Slots in which the first n keys stand, H being their hashes. -/
structure Slt (m : Nat) (H f : Nat → Nat) (n : Nat) : Prop where
  le : ∀ p, f p ≤ n
  few : cnt f m ≤ n
  has : ∀ i, i < n → ∃ j, j < m ∧ f ((H i + j) % m) = i + 1 ∧ ∀ k, k < j → f ((H i + k) % m) ≠ 0
theorem Slt.zero (m : Nat) (H : Nat → Nat) : Slt m H (fun _ => 0) 0 := ⟨fun _ => Nat.le_refl _, by rw [cnt_zero]; exact Nat.le_refl _, fun i hi => by omega⟩
theorem Slt.free {m n : Nat} {H f : Nat → Nat} (h : Slt m H f n) (hn : n < m) (a : Nat) : ∃ j, j < m ∧ f ((a + j) % m) = 0 ∧ ∀ k, k < j → f ((a + k) % m) ≠ 0 := by
  obtain ⟨p, hp, h0⟩ := cnt_free f m (Nat.lt_of_le_of_lt h.few hn)
  obtain ⟨j, hj, he⟩ := met a hp
  obtain ⟨j', h1, h2, h3⟩ := least (P := fun j => f ((a + j) % m) = 0) j (by rw [he]; exact h0)
  exact ⟨j', by omega, h2, h3⟩
theorem Slt.put {m n : Nat} {H f : Nat → Nat} (h : Slt m H f n) {j : Nat} (hj : j < m) (h0 : f ((H n + j) % m) = 0) (hk : ∀ k, k < j → f ((H n + k) % m) ≠ 0) : Slt m H (setF f ((H n + j) % m) (n + 1)) (n + 1) := by
  refine ⟨fun p => ?_, ?_, fun i hi => ?_⟩
  · by_cases hp : p = (H n + j) % m
    · subst hp; rw [setF_same]; exact Nat.le_refl _
    · rw [setF_other f _ hp]; have := h.le p; omega
  · have := cnt_setF f ((H n + j) % m) (n + 1) m
    have h2 := h.few
    split at this <;> omega
  · by_cases hin : i = n
    · subst hin
      refine ⟨j, hj, setF_same _ _ _, fun k hkj => ?_⟩
      by_cases hp : (H i + k) % m = (H i + j) % m
      · rw [hp, setF_same]; omega
      · rw [setF_other f _ hp]; exact hk k hkj
    · obtain ⟨j', hj', h1, h2⟩ := h.has i (by omega)
      refine ⟨j', hj', ?_, fun k hkj => ?_⟩
      · rw [setF_other f _ (fun e => by rw [e, h0] at h1; omega)]; exact h1
      · by_cases hp : (H i + k) % m = (H n + j) % m
        · rw [hp, setF_same]; omega
        · rw [setF_other f _ hp]; exact h2 k hkj
theorem Slt.ext {m n : Nat} {H H' f : Nat → Nat} (h : Slt m H f n) (e : ∀ i, i < n → H' i = H i) : Slt m H' f n :=
  ⟨h.le, h.few, fun i hi => by rw [e i hi]; exact h.has i hi⟩
theorem Slt.extf {m n : Nat} {H f g : Nat → Nat} (h : Slt m H f n) (hm : 0 < m) (e : ∀ p, p < m → g p = f p) (e2 : ∀ p, m ≤ p → g p ≤ n) : Slt m H g n :=
  ⟨fun p => if hp : p < m then by rw [e p hp]; exact h.le p else e2 p (by omega), by
    have : ∀ k, k ≤ m → cnt g k = cnt f k := fun k => by
      induction k with
      | zero => intro _; rfl
      | succ k ih => intro hk; simp only [cnt]; rw [ih (by omega), e k (by omega)]
    rw [this m (Nat.le_refl _)]; exact h.few, fun i hi => by
    obtain ⟨j, hj, h1, h2⟩ := h.has i hi
    exact ⟨j, hj, by rw [e _ (Nat.mod_lt _ hm)]; exact h1, fun k hk => by rw [e _ (Nat.mod_lt _ hm)]; exact h2 k hk⟩⟩

/-- A number of 64 bits by which a text's slot is found. -/
def hstep (h : Nat) (c : Nat) : Nat := ((h ^^^ c) * 1099511628211) % 18446744073709551616
def hashP (l : List UInt8) : Nat → Nat
  | 0 => 14695981039346656037
  | i + 1 => hstep (hashP l i) (bt l i)
theorem hashP_lt (l : List UInt8) : ∀ i, hashP l i < 18446744073709551616
  | 0 => by show 14695981039346656037 < 18446744073709551616; decide
  | i + 1 => Nat.mod_lt _ (by decide)
def hashN (l : List UInt8) : Nat := hashP l l.length ^^^ (hashP l l.length / 4294967296)
theorem hashN_lt (l : List UInt8) : hashN l < 18446744073709551616 := by
  have := hashP_lt l l.length
  exact Nat.xor_lt_two_pow (n := 64) this (by omega)
/-- The hashes of a list's texts. -/
def hOf (ts : List (List UInt8)) (i : Nat) : Nat := hashN (ts.getD i [])
theorem hOf_snoc (ts : List (List UInt8)) (s : List UInt8) {i : Nat} (h : i < ts.length) : hOf (ts ++ [s]) i = hOf ts i := by
  unfold hOf
  rw [List.getD_eq_getElem?_getD, List.getD_eq_getElem?_getD, List.getElem?_append_left h]
theorem hOf_last (ts : List (List UInt8)) (s : List UInt8) : hOf (ts ++ [s]) ts.length = hashN s := by unfold hOf; simp

/-- Between two rounds of a search: what has been met is taken, by others. -/
def Past (ts : List (List UInt8)) (m : Nat) (f : Nat → Nat) (s : List UInt8) (c : Nat) : Prop := ∀ k, k < c → f ((hashN s + k) % m) ≠ 0 ∧ ts.getD (f ((hashN s + k) % m) - 1) [] ≠ s
theorem Past.none {ts : List (List UInt8)} {m c : Nat} {f : Nat → Nat} {s : List UInt8} (hS : Slt m (hOf ts) f ts.length) (h : Past ts m f s c) (hc : c = m ∨ f ((hashN s + c) % m) = 0) : fnd ts s = -1 := by
  refine fnd_none fun hm => ?_
  have hi := List.idxOf_lt_length_of_mem hm
  obtain ⟨j, hj, h1, h2⟩ := hS.has _ hi
  have he : hOf ts (ts.idxOf s) = hashN s := by unfold hOf; rw [getD_idx hm]
  rw [he] at h1 h2
  have hjc : j < c := by
    rcases hc with rfl | hc
    · exact hj
    · rcases Nat.lt_trichotomy j c with h' | h' | h'
      · exact h'
      · subst h'; rw [hc] at h1; omega
      · exact absurd hc (h2 c h')
  have := (h j hjc).2
  rw [h1, Nat.add_sub_cancel, getD_idx hm] at this
  exact this rfl
theorem Past.some {ts : List (List UInt8)} {m c : Nat} {f : Nat → Nat} {s : List UInt8} (hS : Slt m (hOf ts) f ts.length) (hd : ts.Nodup) {v : Nat} (h0 : f ((hashN s + c) % m) = v + 1) (he : ts.getD v [] = s) : v < ts.length ∧ fnd ts s = v := by
  have := hS.le ((hashN s + c) % m)
  exact ⟨by omega, fnd_at hd (by omega) he⟩
theorem Past.next {ts : List (List UInt8)} {m c : Nat} {f : Nat → Nat} {s : List UInt8} (h : Past ts m f s c) {v : Nat} (h0 : f ((hashN s + c) % m) = v + 1) (he : ts.getD v [] ≠ s) : Past ts m f s (c + 1) := fun k hk => by
  by_cases e : k = c
  · subst e; rw [h0, Nat.add_sub_cancel]; exact ⟨by omega, he⟩
  · exact h k (by omega)
theorem Past.zero (ts : List (List UInt8)) (m : Nat) (f : Nat → Nat) (s : List UInt8) : Past ts m f s 0 := fun k hk => by omega

/-- The slots from one on, in the order in which they are gone through. -/
def prb (a m c : Nat) : List Nat := (List.range c).map fun j => (a + j) % m
theorem prb_len (a m c : Nat) : (prb a m c).length = c := by simp [prb]
theorem prb_succ (a m c : Nat) : prb a m (c + 1) = prb a m c ++ [(a + c) % m] := by simp [prb, List.range_succ]
theorem prb_next {a m c : Nat} {pre : List Nat} {x : Nat} (h : pre ++ [x] = prb a m c) : pre = prb a m pre.length ∧ x = (a + pre.length) % m ∧ pre.length + 1 = c := by
  have hl := congrArg List.length h
  rw [prb_len, List.length_append, List.length_singleton] at hl
  rw [← hl, prb_succ] at h
  obtain ⟨h1, h2⟩ := List.append_inj' h rfl
  exact ⟨h1, by simpa using h2, hl⟩
/-- The lowest bits of a sum that wraps. -/
theorem ring (x : Int) (a k : Nat) (hk : k ≤ 62) (hx : x % 18446744073709551616 = (a : Int) % 18446744073709551616) : bits .and .i64 x (2 ^ k - 1) = ((a % 2 ^ k : Nat) : Int) := by
  have hp : 0 < 2 ^ k := Nat.two_pow_pos k
  have hp2 : 2 ^ k ≤ 2 ^ 62 := Nat.pow_le_pow_right (by decide) hk
  have hc : ((2 : Int) ^ k - 1) = ((2 ^ k - 1 : Nat) : Int) := by rw [Int.natCast_sub hp]; simp
  have hd : 2 ^ k ∣ 18446744073709551616 := Nat.pow_dvd_pow (n := 64) 2 (by omega)
  have h1 : (BitVec.ofInt 64 x).toNat = a % 18446744073709551616 := by
    rw [BitVec.toNat_ofInt]
    show (x % 18446744073709551616).toNat = _
    rw [hx]; omega
  have h2 : (2 ^ k - 1) % 18446744073709551616 = 2 ^ k - 1 := Nat.mod_eq_of_lt (by omega)
  have h3 : (a % 18446744073709551616) &&& (2 ^ k - 1) = a % 2 ^ k := by
    rw [Nat.and_two_pow_sub_one_eq_mod, Nat.mod_mod_of_dvd _ hd]
  have h4 : a % 2 ^ k < 2 ^ k := Nat.mod_lt _ hp
  have e : bits .and .i64 x ((2 ^ k - 1 : Nat) : Int) = IntKind.i64.wrap (((BitVec.ofInt 64 x &&& BitVec.ofInt 64 ((2 ^ k - 1 : Nat) : Int)).toNat : Nat) : Int) := rfl
  rw [hc, e, BitVec.toNat_and, h1, BitVec.ofInt_natCast, BitVec.toNat_ofNat, show (2 ^ k - 1) % 2 ^ 64 = 2 ^ k - 1 from h2, h3, IntKind.wrap_i64]
  omega
theorem xor64 (a b : Nat) (ha : a < 18446744073709551616) (hb : b < 18446744073709551616) : bits .xor .u64 (a : Int) (b : Int) = ((a ^^^ b : Nat) : Int) := by
  have e : bits .xor .u64 (a : Int) (b : Int) = IntKind.u64.wrap (((BitVec.ofInt 64 (a : Int) ^^^ BitVec.ofInt 64 (b : Int)).toNat : Nat) : Int) := rfl
  have h := Nat.xor_lt_two_pow (n := 64) ha hb
  rw [e, BitVec.toNat_xor, BitVec.ofInt_natCast, BitVec.ofInt_natCast, BitVec.toNat_ofNat, BitVec.toNat_ofNat, Nat.mod_eq_of_lt (show a < 2 ^ 64 from ha), Nat.mod_eq_of_lt (show b < 2 ^ 64 from hb), IntKind.wrap_u64]
  omega

end Go.Proofs.Ytiiflegfbieblaa

namespace Go.Proofs.Ytiiflegfbieblaa
open Go.RowKit

/-- The first three words. -/
def mk3 : List (List UInt8) := [unkW, mkB, mkE]
theorem mk3_nodup : mk3.Nodup := by decide
theorem unk_ne : unkW ≠ [] := by decide
theorem mk3_ne : ∀ x ∈ mk3, x ≠ [] := by decide
theorem mk3_len : ∀ x ∈ mk3, x.length ≤ 255 := by decide

/-- May the word i of a list stand there? -/
def goodB (l : List (List UInt8)) (i : Nat) : Bool := decide (i < 3) || (rightW (l.getD i []) && decide (l.getD i [] ∉ l.take i))
/-- Why a list is no vocabulary, or 0. -/
def wrV (l : List (List UInt8)) : Nat := if l.length < 3 ∨ l.take 3 ≠ mk3 then 1 else if (List.range l.length).all (goodB l) = true then 0 else 10
theorem wr_short {l : List (List UInt8)} (h : l.length < 3) : wrV l = 1 := if_pos (.inl h)
theorem wr_head {l : List (List UInt8)} (h : l.take 3 ≠ mk3) : wrV l = 1 := if_pos (.inr h)
theorem wr_bad {l : List (List UInt8)} (h3 : l.take 3 = mk3) {i : Nat} (hi : i < l.length) (hb : goodB l i = false) : wrV l = 10 := by
  have hl : ¬ l.length < 3 := fun hlt => by
    have := congrArg List.length h3
    rw [List.length_take] at this
    simp [mk3] at this
    omega
  unfold wrV
  rw [if_neg (fun h => h.elim hl fun hn => hn h3), if_neg]
  intro ha
  have := List.all_eq_true.1 ha i (List.mem_range.2 hi)
  rw [hb] at this
  cases this
theorem wr_ok {l : List (List UInt8)} (h3 : l.take 3 = mk3) (h : ∀ i, i < l.length → goodB l i = true) : wrV l = 0 := by
  have hl : ¬ l.length < 3 := fun hlt => by
    have := congrArg List.length h3
    rw [List.length_take] at this
    simp [mk3] at this
    omega
  unfold wrV
  rw [if_neg (fun h => h.elim hl fun hn => hn h3), if_pos]
  exact List.all_eq_true.2 fun i hi => h i (List.mem_range.1 hi)
theorem wr_three {l : List (List UInt8)} (h : wrV l = 0) : 3 ≤ l.length ∧ l.take 3 = mk3 ∧ ∀ i, i < l.length → goodB l i = true := by
  unfold wrV at h
  by_cases h1 : l.length < 3 ∨ l.take 3 ≠ mk3
  · rw [if_pos h1] at h; cases h
  · rw [if_neg h1] at h
    by_cases h2 : (List.range l.length).all (goodB l) = true
    · refine ⟨Nat.not_lt.1 fun hh => h1 (.inl hh), Classical.byContradiction fun hh => h1 (.inr hh), fun i hi => ?_⟩
      exact List.all_eq_true.1 h2 i (List.mem_range.2 hi)
    · rw [if_neg h2] at h; cases h
theorem good_small {l : List (List UInt8)} {i : Nat} (h : i < 3) : goodB l i = true := by unfold goodB; rw [decide_eq_true h]; rfl
theorem good_new {l : List (List UInt8)} {i : Nat} (h : 3 ≤ i) : goodB l i = (rightW (l.getD i []) && decide (l.getD i [] ∉ l.take i)) := by
  unfold goodB; rw [decide_eq_false (by omega)]; rfl
theorem take_next {l : List (List UInt8)} {i : Nat} (h : i < l.length) : l.take (i + 1) = l.take i ++ [l.getD i []] := by
  rw [List.take_succ_eq_append_getElem h, show l.getD i [] = l[i]'h by simp [List.getD, List.getElem?_eq_getElem h]]
theorem put_next {l : List (List UInt8)} {i : Nat} (h : i < l.length) (hn : l.getD i [] ∉ l.take i) : putN (l.take i) (l.getD i []) = l.take (i + 1) := by
  rw [putN_new hn, take_next h]
/-- No word of a vocabulary is empty, none is longer than 255 bytes. -/
theorem wr_words {l : List (List UInt8)} (h : wrV l = 0) : ∀ i, i < l.length → l.getD i [] ≠ [] ∧ (l.getD i []).length ≤ 255 := by
  obtain ⟨h0, h3, hg⟩ := wr_three h
  intro i hi
  by_cases hi3 : i < 3
  · have hm : l.getD i [] ∈ mk3 := by
      rw [← h3]
      have : (l.take 3).getD i [] ∈ l.take 3 := getD_mem (by rw [List.length_take]; omega)
      rw [List.getD_eq_getElem?_getD, List.getElem?_take, if_pos hi3, ← List.getD_eq_getElem?_getD] at this
      exact this
    exact ⟨mk3_ne _ hm, mk3_len _ hm⟩
  · have := hg i hi
    rw [good_new (by omega), Bool.and_eq_true] at this
    have h1 := right_parts this.1
    exact ⟨h1.1, h1.2.2.2⟩

/-- The words of lines, one line behind the other. -/
def lw (L : List (List UInt8)) : List (List UInt8) := (L.map wordsOf).flatten
theorem lw_snoc (L : List (List UInt8)) (x : List UInt8) : lw (L ++ [x]) = lw L ++ wordsOf x := by simp [lw]
theorem snt_flat : ∀ L : List (List UInt8), (snt L).flatten = lw L
  | [] => rfl
  | x :: L => by
    have ih := snt_flat L
    by_cases h : wordsOf x = []
    · have : snt (x :: L) = snt L := by rw [snt, if_pos h]
      rw [this, ih]; simp [lw, h]
    · have : snt (x :: L) = wordsOf x :: snt L := by rw [snt, if_neg h]
      rw [this, List.flatten_cons, ih]; simp [lw]
/-- The words of a text, in the order in which they come, behind the first three. -/
def lrn (t : List UInt8) : List (List UInt8) := putAll mk3 (lw (lns [] t))
theorem putAll_app (ts a b : List (List UInt8)) : putAll ts (a ++ b) = putAll (putAll ts a) b := by simp [putAll]
theorem putAll_ge (l : List (List UInt8)) : ∀ ts : List (List UInt8), ts.length ≤ (putAll ts l).length := by
  induction l with
  | nil => intro ts; exact Nat.le_refl _
  | cons s l ih => intro ts; have h1 := ih (putN ts s); have h2 := (putN_len ts s).2; simp [putAll] at h1 ⊢; omega
theorem putAll_in (l : List (List UInt8)) : ∀ ts : List (List UInt8), ∀ x ∈ putAll ts l, x ∈ ts ∨ x ∈ l := by
  induction l with
  | nil => intro ts x h; exact .inl h
  | cons s l ih =>
    intro ts x h
    rcases ih (putN ts s) x h with h1 | h1
    · by_cases hm : s ∈ ts
      · rw [putN_in hm] at h1; exact .inl h1
      · rw [putN_new hm] at h1
        rcases List.mem_append.1 h1 with h2 | h2
        · exact .inl h2
        · exact .inr (by simp at h2; simp [h2])
    · exact .inr (List.mem_cons_of_mem _ h1)
theorem lw_len : ∀ L : List (List UInt8), (lw L).length ≤ (L.map List.length).sum
  | [] => by simp [lw]
  | x :: L => by
    have ih := lw_len L
    have h1 := wds_len (pcs [] x)
    have h2 := pcs_len x []
    simp [lw, wordsOf] at ih h1 h2 ⊢
    omega
theorem lns_sum : ∀ (t cur : List UInt8), ((lns cur t).map List.length).sum ≤ cur.length + t.length
  | [], cur => by simp [lns]
  | c :: t, cur => by
    rw [lns]
    split
    · have := lns_sum t []
      simp at this ⊢; omega
    · have := lns_sum t (cur ++ [c])
      simp at this ⊢; omega
theorem lrn_len (t : List UInt8) : 3 ≤ (lrn t).length ∧ (lrn t).length ≤ t.length + 3 := by
  have h1 := putAll_ge (lw (lns [] t)) mk3
  have h2 := putAll_len (lw (lns [] t)) mk3
  have h3 := lw_len (lns [] t)
  have h4 := lns_sum t []
  unfold lrn
  simp [mk3] at h1 h2 h4 ⊢
  omega
theorem all_flat (t : List UInt8) : putAll mk3 (allS t).flatten = lrn t := by unfold lrn allS; rw [snt_flat]
theorem words_ok (x : List UInt8) : ∀ y ∈ wordsOf x, y.length ≤ 255 := by
  intro y hy
  unfold wordsOf at hy
  have : ∀ ps : List (List UInt8), ∀ y ∈ wds ps, y.length ≤ 255 := fun ps => by
    induction ps with
    | nil => intro y h; cases h
    | cons p ps ih =>
      intro y h
      rw [wds] at h
      split at h
      · exact ih y h
      · rcases List.mem_cons.1 h with rfl | h
        · unfold wd1
          split
          · decide
          · omega
        · exact ih y h
  exact this _ y hy

/-- A word's number, or 0. -/
def idI (ts : List (List UInt8)) (s : List UInt8) : Int := if fnd ts s < 0 then 0 else fnd ts s
theorem idI_nil (s : List UInt8) : idI [] s = 0 := by unfold idI; rw [fnd_none (by simp)]; rfl
theorem fnd_nil (s : List UInt8) : fnd [] s = -1 := fnd_none (by simp)
theorem idI_le {ts : List (List UInt8)} {s : List UInt8} : 0 ≤ idI ts s ∧ idI ts s ≤ ts.length := by
  have := @fnd_lt ts s
  unfold idI; split <;> omega
/-- The word of a number, or nothing. -/
def wdI (ts : List (List UInt8)) (i : Int) : List UInt8 := if 0 ≤ i ∧ i < ts.length then ts.getD i.toNat [] else []
/-- The word of a number, or <unk>. -/
def lnI (ts : List (List UInt8)) (i : Int) : List UInt8 := if 0 ≤ i ∧ i < ts.length then ts.getD i.toNat [] else unkW
theorem lnI_of {ts : List (List UInt8)} (h : ∀ i, i < ts.length → ts.getD i [] ≠ []) (i : Int) : lnI ts i = if wdI ts i = [] then unkW else wdI ts i := by
  unfold lnI wdI
  by_cases hi : 0 ≤ i ∧ i < ts.length
  · rw [if_pos hi, if_pos hi, if_neg (h _ (by omega))]
  · rw [if_neg hi, if_neg hi, if_pos rfl]
theorem lnI_len {ts : List (List UInt8)} (h : ∀ i, i < ts.length → (ts.getD i []).length ≤ 255) (i : Int) : (lnI ts i).length ≤ 255 := by
  unfold lnI
  split
  · exact h _ (by omega)
  · decide
/-- Words with blanks between them, as the library joins them. -/
theorem jn_join (f : Nat → List UInt8) : ∀ k, jn f k = Lib.join ((List.range k).map f) [32]
  | 0 => rfl
  | k + 1 => by
    have ih := jn_join f k
    rw [jn, ih, List.range_succ, List.map_append, List.map_singleton]
    by_cases hk : 0 < k
    · rw [if_pos hk]
      obtain ⟨y, r, hr⟩ : ∃ y r, (List.range k).map f = y :: r := by
        cases h : (List.range k).map f with
        | nil => have := congrArg List.length h; simp at this; omega
        | cons y r => exact ⟨y, r, rfl⟩
      rw [hr, List.cons_append, Lib.join_cons, Lib.join_cons]
      simp [Lib.joinTail]
    · obtain rfl : k = 0 := by omega
      simp [Lib.join_one, Lib.join_nil]
end Go.Proofs.Ytiiflegfbieblaa
