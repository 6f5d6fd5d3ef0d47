/-
  Bytes, plainly: a number's digits of seven bits, and what is read at the front of bytes.
-/
import Derived.WalkKit
import Derived.ProofKit
import Derived.Lib.AppendStr
namespace Go.Proofs.Yteiegedffjkbeaa
open Go.RowKit

/-- Bytes as a string. -/
def bs (l : List UInt8) : ByteArray := ⟨l.toArray⟩
theorem bs_size (l : List UInt8) : (bs l).size = l.length := by simp [bs, ByteArray.size]
theorem bs_of (s : ByteArray) : ∃ l, s = bs l := ⟨s.data.toList, by cases s; simp [bs]⟩
theorem bs_append (l m : List UInt8) : bs l ++ bs m = bs (l ++ m) := by unfold bs; rw [ByteArray.mk_append_mk]
theorem bs_cut (l : List UInt8) (a b : Nat) : (bs l).extract a b = bs ((l.take b).drop a) := by
  unfold bs
  rw [ByteArray.extract_mk]
  congr 1
  simp [List.drop_take]
theorem bs_inj {l m : List UInt8} (h : bs l = bs m) : l = m := by
  simpa [bs] using h
theorem bs_cells (l : List UInt8) : Lib.strCells (bs l) = l.map fun b => Value.int .u8 b.toNat := by simp [Lib.strCells, bs]
theorem bs_nil : (ByteArray.mk #[]) = bs [] := rfl

/-- The byte at a place. -/
def bt (l : List UInt8) (i : Nat) : Nat := (l[i]?.getD 0).toNat
theorem bt_lt (l : List UInt8) (i : Nat) : bt l i < 256 := UInt8.toNat_lt _
theorem bt_bs (l : List UInt8) (i : Nat) (h : i < (bs l).size) : ((bs l)[i]'h).toNat = bt l i := by
  have h' : i < l.length := by rw [bs_size] at h; exact h
  unfold bt
  rw [List.getElem?_eq_getElem h']
  rfl
theorem bt_drop (l : List UInt8) (a i : Nat) : bt (l.drop a) i = bt l (a + i) := by simp [bt]
theorem bt_zero (b : UInt8) (l : List UInt8) : bt (b :: l) 0 = b.toNat := rfl
theorem bt_succ (b : UInt8) (l : List UInt8) (i : Nat) : bt (b :: l) (i + 1) = bt l i := by simp [bt]

/-- A number's bytes. -/
def num (v : Nat) : List UInt8 := if v < 128 then [UInt8.ofNat v] else UInt8.ofNat (v % 128 + 128) :: num (v / 128)
termination_by v
decreasing_by omega
theorem num_small {v : Nat} (h : v < 128) : num v = [UInt8.ofNat v] := by rw [num, if_pos h]
theorem num_great {v : Nat} (h : ¬ v < 128) : num v = UInt8.ofNat (v % 128 + 128) :: num (v / 128) := by rw [num, if_neg h]
theorem num_len : ∀ (f v : Nat), v < 128 ^ (f + 1) → (num v).length ≤ f + 1 ∧ 1 ≤ (num v).length
  | 0, v, h => by rw [num_small (by simpa using h)]; simp
  | f + 1, v, h => by
    by_cases h1 : v < 128
    · rw [num_small h1]; simp
    · rw [num_great h1]
      have := num_len f (v / 128) (by rw [Nat.div_lt_iff_lt_mul (by decide), ← Nat.pow_succ]; exact h)
      simp only [List.length_cons]
      omega
theorem num_ten {v : Nat} (h : v < 18446744073709551616) : (num v).length ≤ 10 ∧ 1 ≤ (num v).length := num_len 9 v (by omega)

/-- An int as a number, and back. -/
def fold (v : Int) : Nat := if v < 0 then (-2 * v - 1).toNat else (2 * v).toNat
def unf (v : Nat) : Int := if v % 2 = 1 then - ((v / 2 : Nat) : Int) - 1 else ((v / 2 : Nat) : Int)
theorem unf_fold (v : Int) : unf (fold v) = v := by
  unfold unf fold
  by_cases h : v < 0
  · rw [if_pos h, if_pos (by omega)]; omega
  · rw [if_neg h, if_neg (by omega)]; omega
theorem fold_lt {v : Int} (h : -9223372036854775808 ≤ v ∧ v ≤ 9223372036854775807) : fold v < 18446744073709551616 := by
  unfold fold
  split <;> omega
theorem unf_b {v : Nat} (h : v < 18446744073709551616) : -9223372036854775808 ≤ unf v ∧ unf v ≤ 9223372036854775807 := by
  unfold unf
  split <;> omega

/-- How many bytes ahead are 128 or more, up to f. -/
def ld : Nat → List UInt8 → Nat
  | 0, _ => 0
  | _ + 1, [] => 0
  | f + 1, b :: l => if 128 ≤ b.toNat then ld f l + 1 else 0
theorem ld_is : ∀ (f : Nat) (l : List UInt8) (n : Nat), n ≤ f → n ≤ l.length → (∀ i, i < n → 128 ≤ bt l i) → (n = f ∨ n = l.length ∨ bt l n < 128) → ld f l = n
  | 0, l, n, h, _, _, _ => by simp only [ld]; omega
  | f + 1, [], n, _, h, _, _ => by simp only [ld]; simp at h; omega
  | f + 1, b :: l, 0, _, _, _, h => by
    simp only [ld]
    have : b.toNat < 128 := by
      rcases h with h | h | h
      · omega
      · simp at h
      · simpa [bt_zero] using h
    rw [if_neg (by omega)]
  | f + 1, b :: l, n + 1, h1, h2, h3, h4 => by
    simp only [ld]
    have h0 := h3 0 (by omega)
    rw [bt_zero] at h0
    rw [if_pos h0, ld_is f l n (by omega) (by simp at h2; omega) (fun i hi => by have := h3 (i + 1) (by omega); rwa [bt_succ] at this) (by
      rcases h4 with h | h | h
      · exact .inl (by omega)
      · exact .inr (.inl (by simp at h; omega))
      · exact .inr (.inr (by rwa [bt_succ] at h)))]
theorem ld_ok : ∀ (f : Nat) (l : List UInt8), ld f l ≤ f ∧ ld f l ≤ l.length ∧ (∀ i, i < ld f l → 128 ≤ bt l i) ∧ (ld f l = f ∨ ld f l = l.length ∨ bt l (ld f l) < 128)
  | 0, l => by simp [ld]
  | f + 1, [] => by simp [ld]
  | f + 1, b :: l => by
    simp only [ld]
    obtain ⟨h1, h2, h3, h4⟩ := ld_ok f l
    by_cases h : 128 ≤ b.toNat
    · rw [if_pos h]
      refine ⟨by omega, by simp; omega, fun i hi => ?_, ?_⟩
      · match i with
        | 0 => rw [bt_zero]; exact h
        | i + 1 => rw [bt_succ]; exact h3 i (by omega)
      · rw [bt_succ]
        rcases h4 with h | h | h
        · exact .inl (by omega)
        · exact .inr (.inl (by simp; omega))
        · exact .inr (.inr h)
    · rw [if_neg h]
      exact ⟨by omega, by omega, fun i hi => by omega, .inr (.inr (by rw [bt_zero]; omega))⟩

/-- The number of the first k digits. -/
def val (l : List UInt8) : Nat → Nat
  | 0 => 0
  | k + 1 => val l k + bt l k % 128 * 128 ^ k
theorem val_lt (l : List UInt8) : ∀ k, val l k < 128 ^ k
  | 0 => by simp [val]
  | k + 1 => by
    have h1 := val_lt l k
    have h2 : bt l k % 128 < 128 := Nat.mod_lt _ (by decide)
    have h3 : (bt l k % 128 + 1) * 128 ^ k ≤ 128 * 128 ^ k := Nat.mul_le_mul_right _ h2
    rw [Nat.add_mul, Nat.one_mul] at h3
    rw [val, Nat.pow_succ]
    omega
theorem val_cons (b : UInt8) (l : List UInt8) : ∀ k, val (b :: l) (k + 1) = b.toNat % 128 + 128 * val l k
  | 0 => by simp [val, bt_zero]
  | k + 1 => by
    rw [val, val_cons b l k, bt_succ, val, Nat.mul_add, Nat.pow_succ, Nat.mul_comm (128 ^ k) 128, Nat.mul_left_comm]
    omega
theorem val_ten (l : List UInt8) {n : Nat} (hn : n ≤ 9) (h : n = 9 → bt l n ≤ 1) : val l (n + 1) < 18446744073709551616 := by
  by_cases h9 : n = 9
  · have h1 := h h9
    subst h9
    have h2 := val_lt l 9
    rw [val]
    have h3 : bt l 9 % 128 = bt l 9 := by omega
    rw [h3]
    have h4 : bt l 9 * 128 ^ 9 ≤ 1 * 128 ^ 9 := Nat.mul_le_mul_right _ h1
    omega
  · have h1 := val_lt l (n + 1)
    have h2 : (128 : Nat) ^ (n + 1) ≤ 128 ^ 9 := Nat.pow_le_pow_right (by decide) (by omega)
    omega
theorem val_append (l m : List UInt8) : ∀ k, k ≤ l.length → val (l ++ m) k = val l k
  | 0, _ => rfl
  | k + 1, h => by
    rw [val, val, val_append l m k (by omega)]
    have : bt (l ++ m) k = bt l k := by unfold bt; rw [List.getElem?_append_left (by omega)]
    rw [this]

/-- The number at the front: which, how many bytes it has, what is wrong. -/
def fst (l : List UInt8) : Nat × Nat × Nat :=
  if ld 10 l = 10 then (0, 0, 3) else if ld 10 l = l.length then (0, 0, 2)
  else if (ld 10 l = 9 ∧ 1 < bt l (ld 10 l)) ∨ (0 < ld 10 l ∧ bt l (ld 10 l) = 0) then (0, 0, 3) else (val l (ld 10 l + 1), ld 10 l + 1, 0)
theorem fst_many {l : List UInt8} (h1 : 10 ≤ l.length) (h : ∀ i, i < 10 → 128 ≤ bt l i) : fst l = (0, 0, 3) := by
  unfold fst
  rw [ld_is 10 l 10 (by omega) h1 h (.inl rfl), if_pos rfl]
theorem fst_short {l : List UInt8} (h1 : l.length < 10) (h : ∀ i, i < l.length → 128 ≤ bt l i) : fst l = (0, 0, 2) := by
  unfold fst
  rw [ld_is 10 l l.length (by omega) (by omega) h (.inr (.inl rfl)), if_neg (by omega), if_pos rfl]
theorem fst_bad {l : List UInt8} {n : Nat} (h0 : n < 10) (h1 : n < l.length) (h : ∀ i, i < n → 128 ≤ bt l i) (h2 : bt l n < 128) (hb : (n = 9 ∧ 1 < bt l n) ∨ (0 < n ∧ bt l n = 0)) : fst l = (0, 0, 3) := by
  unfold fst
  rw [ld_is 10 l n (by omega) (by omega) h (.inr (.inr h2)), if_neg (by omega), if_neg (by omega), if_pos hb]
theorem fst_good {l : List UInt8} {n : Nat} (h0 : n < 10) (h1 : n < l.length) (h : ∀ i, i < n → 128 ≤ bt l i) (h2 : bt l n < 128) (hb : ¬ ((n = 9 ∧ 1 < bt l n) ∨ (0 < n ∧ bt l n = 0))) : fst l = (val l (n + 1), n + 1, 0) := by
  unfold fst
  rw [ld_is 10 l n (by omega) (by omega) h (.inr (.inr h2)), if_neg (by omega), if_neg (by omega), if_neg hb]
theorem fst_cases (l : List UInt8) : fst l = (0, 0, 3) ∨ fst l = (0, 0, 2) ∨ ∃ n, n < 10 ∧ n < l.length ∧ (∀ i, i < n → 128 ≤ bt l i) ∧ bt l n < 128 ∧ ¬ ((n = 9 ∧ 1 < bt l n) ∨ (0 < n ∧ bt l n = 0)) ∧ fst l = (val l (n + 1), n + 1, 0) := by
  obtain ⟨h1, h2, h3, h4⟩ := ld_ok 10 l
  unfold fst
  generalize ld 10 l = n at *
  by_cases g1 : n = 10
  · rw [if_pos g1]; exact .inl rfl
  · rw [if_neg g1]
    by_cases g2 : n = l.length
    · rw [if_pos g2]; exact .inr (.inl rfl)
    · rw [if_neg g2]
      by_cases g3 : (n = 9 ∧ 1 < bt l n) ∨ (0 < n ∧ bt l n = 0)
      · rw [if_pos g3]; exact .inl rfl
      · rw [if_neg g3]
        exact .inr (.inr ⟨n, by omega, by omega, h3, by omega, g3, rfl⟩)
theorem fst_ok {l : List UInt8} {v t er : Nat} (h : fst l = (v, t, er)) : t ≤ l.length ∧ v < 18446744073709551616 ∧ (er ≠ 0 → v = 0 ∧ t = 0) ∧ er ≤ 3 ∧ t ≤ 10 := by
  rcases fst_cases l with e | e | ⟨n, h0, h1, _, _, hb, e⟩
  · rw [e] at h; simp at h; omega
  · rw [e] at h; simp at h; omega
  · rw [e] at h
    simp at h
    have := val_ten l (n := n) (by omega) (by omega)
    omega

/-- A number's bytes, one by one. -/
theorem num_form : ∀ (f v : Nat), v < 128 ^ (f + 1) → ∃ n, (num v).length = n + 1 ∧ (∀ i, i < n → 128 ≤ bt (num v) i) ∧ bt (num v) n < 128 ∧ (0 < n → bt (num v) n ≠ 0) ∧ val (num v) (n + 1) = v
  | 0, v, h => by
    have h' : v < 128 := by simpa using h
    rw [num_small h']
    refine ⟨0, rfl, fun i hi => by omega, ?_, by omega, ?_⟩
    · simp [bt]; omega
    · simp [val, bt]; omega
  | f + 1, v, h => by
    by_cases h1 : v < 128
    · exact num_form 0 v (by simpa using h1)
    · obtain ⟨n, k1, k2, k3, k4, k5⟩ := num_form f (v / 128) (by rw [Nat.div_lt_iff_lt_mul (by decide), ← Nat.pow_succ]; exact h)
      rw [num_great h1]
      have hb : (UInt8.ofNat (v % 128 + 128)).toNat = v % 128 + 128 := by simp; omega
      refine ⟨n + 1, by simp [k1], fun i hi => ?_, by rw [bt_succ]; exact k3, fun _ => ?_, ?_⟩
      · match i with
        | 0 => rw [bt_zero, hb]; omega
        | i + 1 => rw [bt_succ]; exact k2 i (by omega)
      · rw [bt_succ]
        intro h0
        match n, k2, k3, k4, k5 with
        | 0, _, _, _, k5 => simp [val, h0] at k5; omega
        | n + 1, _, _, k4, _ => exact k4 (by omega) h0
      · rw [val_cons, k5, hb]; omega

/-- What is written is read. -/
theorem fst_num {v : Nat} (hv : v < 18446744073709551616) (r : List UInt8) : fst (num v ++ r) = (v, (num v).length, 0) := by
  obtain ⟨n, k1, k2, k3, k4, k5⟩ := num_form 9 v (by omega)
  have hbt : ∀ i, i ≤ n → bt (num v ++ r) i = bt (num v) i := fun i hi => by unfold bt; rw [List.getElem?_append_left (by omega)]
  have hn := num_ten hv
  have hge : bt (num v) n * 128 ^ n ≤ v := by
    have : val (num v) (n + 1) = val (num v) n + bt (num v) n % 128 * 128 ^ n := rfl
    rw [k5, Nat.mod_eq_of_lt k3] at this
    omega
  rw [fst_good (n := n) (by omega) (by simp; omega) (fun i hi => by rw [hbt i (by omega)]; exact k2 i hi) (by rw [hbt n (by omega)]; exact k3) (by
    rw [hbt n (by omega)]
    rintro (⟨rfl, h⟩ | ⟨h1, h2⟩)
    · have : 2 * 128 ^ 9 ≤ bt (num v) 9 * 128 ^ 9 := Nat.mul_le_mul_right _ h
      omega
    · exact k4 h1 h2)]
  rw [val_append _ _ _ (by omega), k5, k1]

/-- What is read is written in the same bytes. -/
theorem num_val : ∀ (l : List UInt8) (n : Nat), n < l.length → (∀ i, i < n → 128 ≤ bt l i) → bt l n < 128 → (0 < n → bt l n ≠ 0) → num (val l (n + 1)) = l.take (n + 1)
  | [], n, h, _, _, _ => by simp at h
  | b :: l, 0, _, _, h, _ => by
    rw [bt_zero] at h
    have : val (b :: l) 1 = b.toNat := by simp [val, bt_zero]; omega
    rw [this, num_small h]
    simp
  | b :: l, n + 1, h0, h1, h2, h3 => by
    have hb := h1 0 (by omega)
    rw [bt_zero] at hb
    have hb2 : b.toNat < 256 := UInt8.toNat_lt b
    rw [bt_succ] at h2 h3
    have ih := num_val l n (by simp at h0; omega) (fun i hi => by have := h1 (i + 1) (by omega); rwa [bt_succ] at this) h2 (fun _ => h3 (by omega))
    have hpos : 1 ≤ val l (n + 1) := by
      rw [val]
      have : 1 * 1 ≤ bt l n % 128 * 128 ^ n := Nat.mul_le_mul (by have := h3 (by omega); omega) (Nat.pow_pos (by decide))
      omega
    rw [val_cons, num_great (by omega)]
    have e1 : (b.toNat % 128 + 128 * val l (n + 1)) % 128 + 128 = b.toNat := by omega
    have e2 : (b.toNat % 128 + 128 * val l (n + 1)) / 128 = val l (n + 1) := by omega
    rw [e1, e2, ih]
    simp
theorem num_fst {l : List UInt8} {v t : Nat} (h : fst l = (v, t, 0)) : num v = l.take t := by
  rcases fst_cases l with e | e | ⟨n, h0, h1, h2, h3, hb, e⟩
  · rw [e] at h; simp at h
  · rw [e] at h; simp at h
  · rw [e] at h
    simp at h
    obtain ⟨rfl, rfl⟩ := h
    exact num_val l n h1 h2 h3 (fun hn h => hb (.inr ⟨hn, h⟩))

/-- A number that is not above N, or what is wrong. -/
def bnd (l : List UInt8) (N : Int) (ab : Nat) : Nat × Nat × Nat :=
  if (fst l).2.2 ≠ 0 then (0, 0, (fst l).2.2) else if N < 0 ∨ N < ((fst l).1 : Int) then (0, 0, ab) else ((fst l).1, (fst l).2.1, 0)
/-- An int. -/
def rdI (l : List UInt8) : Int × Nat × Nat := (unf (fst l).1, (fst l).2.1, (fst l).2.2)
/-- N bytes. -/
def cutR (l : List UInt8) (a n : Nat) : List UInt8 × Nat × Nat := if l.length - a < n then ([], 0, 2) else ((l.drop a).take n, a + n, 0)
/-- A text of at most N bytes. -/
def rdT (l : List UInt8) (N : Int) : List UInt8 × Nat × Nat := if (bnd l N 5).2.2 ≠ 0 then ([], 0, (bnd l N 5).2.2) else cutR l (bnd l N 5).2.1 (bnd l N 5).1
/-- N bytes. -/
def rdR (l : List UInt8) (N : Int) : List UInt8 × Nat × Nat := if N < 0 then ([], 0, 1) else cutR l 0 N.toNat

theorem bnd_ok {l : List UInt8} {N : Int} {ab v t er : Nat} (h : bnd l N ab = (v, t, er)) : t ≤ l.length ∧ (er ≠ 0 → v = 0 ∧ t = 0) ∧ (er = 0 → (v : Int) ≤ N ∧ 0 ≤ N ∨ ab = 0) ∧ t ≤ 10 ∧ (v = 0 ∨ (v : Int) ≤ N) := by
  obtain ⟨h1, h2, h3, h4, h5⟩ := fst_ok (show fst l = ((fst l).1, (fst l).2.1, (fst l).2.2) from rfl)
  unfold bnd at h
  split at h
  · simp at h; omega
  · split at h
    · simp at h; omega
    · simp at h; omega
theorem cutR_ok {l x : List UInt8} {a n t er : Nat} (ha : a ≤ l.length) (h : cutR l a n = (x, t, er)) : t ≤ l.length ∧ (er ≠ 0 → x = [] ∧ t = 0) ∧ er ≤ 2 ∧ x.length ≤ l.length := by
  unfold cutR at h
  split at h
  · simp at h
    obtain ⟨rfl, rfl, rfl⟩ := h
    simp
  · simp at h
    obtain ⟨rfl, rfl, rfl⟩ := h
    simp
    omega

end Go.Proofs.Yteiegedffjkbeaa
