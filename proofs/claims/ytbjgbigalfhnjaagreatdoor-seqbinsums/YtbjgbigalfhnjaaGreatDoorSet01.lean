/-
  Bytes, plainly: a number's digits of seven bits, and what is read at the front of bytes.
  A row's bytes, plainly: eight bits a byte, the first one of them the lowest.
  Plain facts on words of 64 bits: how many ones are below a bit, where the k-th one is, what is cut out: no Go in sight.
-/
import Derived.WalkKit
import Derived.ProofKit
import Derived.Lib.AppendStr
import Derived.KernelRfl
namespace Go.Proofs.YtbjgbigalfhnjaaGreatDoor
open Go.RowKit

/-- Bytes as a string. -/
def bs (l : List UInt8) : ByteArray := ⟨l.toArray⟩
theorem bs_size (l : List UInt8) : (bs l).size = l.length := by simp [bs, ByteArray.size]
theorem bs_of (s : ByteArray) : ∃ l, s = bs l := ⟨s.data.toList, by cases s; simp [bs]⟩
theorem bs_append (l m : List UInt8) : bs l ++ bs m = bs (l ++ m) := by unfold bs; rw [ByteArray.mk_append_mk]
theorem bs_cut (l : List UInt8) (a b : Nat) : (bs l).extract a b = bs ((l.take b).drop a) := by
  unfold bs
  rw [ByteArray.extract_mk]
  congr 1
  simp [List.drop_take]
theorem bs_inj {l m : List UInt8} (h : bs l = bs m) : l = m := by
  simpa [bs] using h
theorem bs_cells (l : List UInt8) : Lib.strCells (bs l) = l.map fun b => Value.int .u8 b.toNat := by simp [Lib.strCells, bs]
theorem bs_nil : (ByteArray.mk #[]) = bs [] := rfl

/-- The byte at a place. -/
def bt (l : List UInt8) (i : Nat) : Nat := (l[i]?.getD 0).toNat
theorem bt_lt (l : List UInt8) (i : Nat) : bt l i < 256 := UInt8.toNat_lt _
theorem bt_bs (l : List UInt8) (i : Nat) (h : i < (bs l).size) : ((bs l)[i]'h).toNat = bt l i := by
  have h' : i < l.length := by rw [bs_size] at h; exact h
  unfold bt
  rw [List.getElem?_eq_getElem h']
  rfl
theorem bt_drop (l : List UInt8) (a i : Nat) : bt (l.drop a) i = bt l (a + i) := by simp [bt]
theorem bt_zero (b : UInt8) (l : List UInt8) : bt (b :: l) 0 = b.toNat := rfl
theorem bt_succ (b : UInt8) (l : List UInt8) (i : Nat) : bt (b :: l) (i + 1) = bt l i := by simp [bt]

/-- A number's bytes. -/
def num (v : Nat) : List UInt8 := if v < 128 then [UInt8.ofNat v] else UInt8.ofNat (v % 128 + 128) :: num (v / 128)
termination_by v
decreasing_by omega
theorem num_small {v : Nat} (h : v < 128) : num v = [UInt8.ofNat v] := by rw [num, if_pos h]
theorem num_great {v : Nat} (h : ¬ v < 128) : num v = UInt8.ofNat (v % 128 + 128) :: num (v / 128) := by rw [num, if_neg h]
theorem num_len : ∀ (f v : Nat), v < 128 ^ (f + 1) → (num v).length ≤ f + 1 ∧ 1 ≤ (num v).length
  | 0, v, h => by rw [num_small (by simpa using h)]; simp
  | f + 1, v, h => by
    by_cases h1 : v < 128
    · rw [num_small h1]; simp
    · rw [num_great h1]
      have := num_len f (v / 128) (by rw [Nat.div_lt_iff_lt_mul (by decide), ← Nat.pow_succ]; exact h)
      simp only [List.length_cons]
      omega
theorem num_ten {v : Nat} (h : v < 18446744073709551616) : (num v).length ≤ 10 ∧ 1 ≤ (num v).length := num_len 9 v (by omega)

/-- An int as a number, and back. -/
def fold (v : Int) : Nat := if v < 0 then (-2 * v - 1).toNat else (2 * v).toNat
def unf (v : Nat) : Int := if v % 2 = 1 then - ((v / 2 : Nat) : Int) - 1 else ((v / 2 : Nat) : Int)
theorem unf_fold (v : Int) : unf (fold v) = v := by
  unfold unf fold
  by_cases h : v < 0
  · rw [if_pos h, if_pos (by omega)]; omega
  · rw [if_neg h, if_neg (by omega)]; omega
theorem fold_lt {v : Int} (h : -9223372036854775808 ≤ v ∧ v ≤ 9223372036854775807) : fold v < 18446744073709551616 := by
  unfold fold
  split <;> omega
theorem unf_b {v : Nat} (h : v < 18446744073709551616) : -9223372036854775808 ≤ unf v ∧ unf v ≤ 9223372036854775807 := by
  unfold unf
  split <;> omega

/-- How many bytes ahead are 128 or more, up to f. -/
def ld : Nat → List UInt8 → Nat
  | 0, _ => 0
  | _ + 1, [] => 0
  | f + 1, b :: l => if 128 ≤ b.toNat then ld f l + 1 else 0
theorem ld_is : ∀ (f : Nat) (l : List UInt8) (n : Nat), n ≤ f → n ≤ l.length → (∀ i, i < n → 128 ≤ bt l i) → (n = f ∨ n = l.length ∨ bt l n < 128) → ld f l = n
  | 0, l, n, h, _, _, _ => by simp only [ld]; omega
  | f + 1, [], n, _, h, _, _ => by simp only [ld]; simp at h; omega
  | f + 1, b :: l, 0, _, _, _, h => by
    simp only [ld]
    have : b.toNat < 128 := by
      rcases h with h | h | h
      · omega
      · simp at h
      · simpa [bt_zero] using h
    rw [if_neg (by omega)]
  | f + 1, b :: l, n + 1, h1, h2, h3, h4 => by
    simp only [ld]
    have h0 := h3 0 (by omega)
    rw [bt_zero] at h0
    rw [if_pos h0, ld_is f l n (by omega) (by simp at h2; omega) (fun i hi => by have := h3 (i + 1) (by omega); rwa [bt_succ] at this) (by
      rcases h4 with h | h | h
      · exact .inl (by omega)
      · exact .inr (.inl (by simp at h; omega))
      · exact .inr (.inr (by rwa [bt_succ] at h)))]
theorem ld_ok : ∀ (f : Nat) (l : List UInt8), ld f l ≤ f ∧ ld f l ≤ l.length ∧ (∀ i, i < ld f l → 128 ≤ bt l i) ∧ (ld f l = f ∨ ld f l = l.length ∨ bt l (ld f l) < 128)
  | 0, l => by simp [ld]
  | f + 1, [] => by simp [ld]
  | f + 1, b :: l => by
    simp only [ld]
    obtain ⟨h1, h2, h3, h4⟩ := ld_ok f l
    by_cases h : 128 ≤ b.toNat
    · rw [if_pos h]
      refine ⟨by omega, by simp; omega, fun i hi => ?_, ?_⟩
      · match i with
        | 0 => rw [bt_zero]; exact h
        | i + 1 => rw [bt_succ]; exact h3 i (by omega)
      · rw [bt_succ]
        rcases h4 with h | h | h
        · exact .inl (by omega)
        · exact .inr (.inl (by simp; omega))
        · exact .inr (.inr h)
    · rw [if_neg h]
      exact ⟨by omega, by omega, fun i hi => by omega, .inr (.inr (by rw [bt_zero]; omega))⟩

/-- The number of the first k digits. -/
def val (l : List UInt8) : Nat → Nat
  | 0 => 0
  | k + 1 => val l k + bt l k % 128 * 128 ^ k
theorem val_lt (l : List UInt8) : ∀ k, val l k < 128 ^ k
  | 0 => by simp [val]
  | k + 1 => by
    have h1 := val_lt l k
    have h2 : bt l k % 128 < 128 := Nat.mod_lt _ (by decide)
    have h3 : (bt l k % 128 + 1) * 128 ^ k ≤ 128 * 128 ^ k := Nat.mul_le_mul_right _ h2
    rw [Nat.add_mul, Nat.one_mul] at h3
    rw [val, Nat.pow_succ]
    omega
theorem val_cons (b : UInt8) (l : List UInt8) : ∀ k, val (b :: l) (k + 1) = b.toNat % 128 + 128 * val l k
  | 0 => by simp [val, bt_zero]
  | k + 1 => by
    rw [val, val_cons b l k, bt_succ, val, Nat.mul_add, Nat.pow_succ, Nat.mul_comm (128 ^ k) 128, Nat.mul_left_comm]
    omega
theorem val_ten (l : List UInt8) {n : Nat} (hn : n ≤ 9) (h : n = 9 → bt l n ≤ 1) : val l (n + 1) < 18446744073709551616 := by
  by_cases h9 : n = 9
  · have h1 := h h9
    subst h9
    have h2 := val_lt l 9
    rw [val]
    have h3 : bt l 9 % 128 = bt l 9 := by omega
    rw [h3]
    have h4 : bt l 9 * 128 ^ 9 ≤ 1 * 128 ^ 9 := Nat.mul_le_mul_right _ h1
    omega
  · have h1 := val_lt l (n + 1)
    have h2 : (128 : Nat) ^ (n + 1) ≤ 128 ^ 9 := Nat.pow_le_pow_right (by decide) (by omega)
    omega
theorem val_append (l m : List UInt8) : ∀ k, k ≤ l.length → val (l ++ m) k = val l k
  | 0, _ => rfl
  | k + 1, h => by
    rw [val, val, val_append l m k (by omega)]
    have : bt (l ++ m) k = bt l k := by unfold bt; rw [List.getElem?_append_left (by omega)]
    rw [this]

/-- The number at the front: which, how many bytes it has, what is wrong. -/
def fst (l : List UInt8) : Nat × Nat × Nat :=
  if ld 10 l = 10 then (0, 0, 3) else if ld 10 l = l.length then (0, 0, 2)
  else if (ld 10 l = 9 ∧ 1 < bt l (ld 10 l)) ∨ (0 < ld 10 l ∧ bt l (ld 10 l) = 0) then (0, 0, 3) else (val l (ld 10 l + 1), ld 10 l + 1, 0)
theorem fst_many {l : List UInt8} (h1 : 10 ≤ l.length) (h : ∀ i, i < 10 → 128 ≤ bt l i) : fst l = (0, 0, 3) := by
  unfold fst
  rw [ld_is 10 l 10 (by omega) h1 h (.inl rfl), if_pos rfl]
theorem fst_short {l : List UInt8} (h1 : l.length < 10) (h : ∀ i, i < l.length → 128 ≤ bt l i) : fst l = (0, 0, 2) := by
  unfold fst
  rw [ld_is 10 l l.length (by omega) (by omega) h (.inr (.inl rfl)), if_neg (by omega), if_pos rfl]
theorem fst_bad {l : List UInt8} {n : Nat} (h0 : n < 10) (h1 : n < l.length) (h : ∀ i, i < n → 128 ≤ bt l i) (h2 : bt l n < 128) (hb : (n = 9 ∧ 1 < bt l n) ∨ (0 < n ∧ bt l n = 0)) : fst l = (0, 0, 3) := by
  unfold fst
  rw [ld_is 10 l n (by omega) (by omega) h (.inr (.inr h2)), if_neg (by omega), if_neg (by omega), if_pos hb]
theorem fst_good {l : List UInt8} {n : Nat} (h0 : n < 10) (h1 : n < l.length) (h : ∀ i, i < n → 128 ≤ bt l i) (h2 : bt l n < 128) (hb : ¬ ((n = 9 ∧ 1 < bt l n) ∨ (0 < n ∧ bt l n = 0))) : fst l = (val l (n + 1), n + 1, 0) := by
  unfold fst
  rw [ld_is 10 l n (by omega) (by omega) h (.inr (.inr h2)), if_neg (by omega), if_neg (by omega), if_neg hb]
theorem fst_cases (l : List UInt8) : fst l = (0, 0, 3) ∨ fst l = (0, 0, 2) ∨ ∃ n, n < 10 ∧ n < l.length ∧ (∀ i, i < n → 128 ≤ bt l i) ∧ bt l n < 128 ∧ ¬ ((n = 9 ∧ 1 < bt l n) ∨ (0 < n ∧ bt l n = 0)) ∧ fst l = (val l (n + 1), n + 1, 0) := by
  obtain ⟨h1, h2, h3, h4⟩ := ld_ok 10 l
  unfold fst
  generalize ld 10 l = n at *
  by_cases g1 : n = 10
  · rw [if_pos g1]; exact .inl rfl
  · rw [if_neg g1]
    by_cases g2 : n = l.length
    · rw [if_pos g2]; exact .inr (.inl rfl)
    · rw [if_neg g2]
      by_cases g3 : (n = 9 ∧ 1 < bt l n) ∨ (0 < n ∧ bt l n = 0)
      · rw [if_pos g3]; exact .inl rfl
      · rw [if_neg g3]
        exact .inr (.inr ⟨n, by omega, by omega, h3, by omega, g3, rfl⟩)
theorem fst_ok {l : List UInt8} {v t er : Nat} (h : fst l = (v, t, er)) : t ≤ l.length ∧ v < 18446744073709551616 ∧ (er ≠ 0 → v = 0 ∧ t = 0) ∧ er ≤ 3 ∧ t ≤ 10 := by
  rcases fst_cases l with e | e | ⟨n, h0, h1, _, _, hb, e⟩
  · rw [e] at h; simp at h; omega
  · rw [e] at h; simp at h; omega
  · rw [e] at h
    simp at h
    have := val_ten l (n := n) (by omega) (by omega)
    omega

/-- A number's bytes, one by one. -/
theorem num_form : ∀ (f v : Nat), v < 128 ^ (f + 1) → ∃ n, (num v).length = n + 1 ∧ (∀ i, i < n → 128 ≤ bt (num v) i) ∧ bt (num v) n < 128 ∧ (0 < n → bt (num v) n ≠ 0) ∧ val (num v) (n + 1) = v
  | 0, v, h => by
    have h' : v < 128 := by simpa using h
    rw [num_small h']
    refine ⟨0, rfl, fun i hi => by omega, ?_, by omega, ?_⟩
    · simp [bt]; omega
    · simp [val, bt]; omega
  | f + 1, v, h => by
    by_cases h1 : v < 128
    · exact num_form 0 v (by simpa using h1)
    · obtain ⟨n, k1, k2, k3, k4, k5⟩ := num_form f (v / 128) (by rw [Nat.div_lt_iff_lt_mul (by decide), ← Nat.pow_succ]; exact h)
      rw [num_great h1]
      have hb : (UInt8.ofNat (v % 128 + 128)).toNat = v % 128 + 128 := by simp; omega
      refine ⟨n + 1, by simp [k1], fun i hi => ?_, by rw [bt_succ]; exact k3, fun _ => ?_, ?_⟩
      · match i with
        | 0 => rw [bt_zero, hb]; omega
        | i + 1 => rw [bt_succ]; exact k2 i (by omega)
      · rw [bt_succ]
        intro h0
        match n, k2, k3, k4, k5 with
        | 0, _, _, _, k5 => simp [val, h0] at k5; omega
        | n + 1, _, _, k4, _ => exact k4 (by omega) h0
      · rw [val_cons, k5, hb]; omega

/-- What is written is read. -/
theorem fst_num {v : Nat} (hv : v < 18446744073709551616) (r : List UInt8) : fst (num v ++ r) = (v, (num v).length, 0) := by
  obtain ⟨n, k1, k2, k3, k4, k5⟩ := num_form 9 v (by omega)
  have hbt : ∀ i, i ≤ n → bt (num v ++ r) i = bt (num v) i := fun i hi => by unfold bt; rw [List.getElem?_append_left (by omega)]
  have hn := num_ten hv
  have hge : bt (num v) n * 128 ^ n ≤ v := by
    have : val (num v) (n + 1) = val (num v) n + bt (num v) n % 128 * 128 ^ n := rfl
    rw [k5, Nat.mod_eq_of_lt k3] at this
    omega
  rw [fst_good (n := n) (by omega) (by simp; omega) (fun i hi => by rw [hbt i (by omega)]; exact k2 i hi) (by rw [hbt n (by omega)]; exact k3) (by
    rw [hbt n (by omega)]
    rintro (⟨rfl, h⟩ | ⟨h1, h2⟩)
    · have : 2 * 128 ^ 9 ≤ bt (num v) 9 * 128 ^ 9 := Nat.mul_le_mul_right _ h
      omega
    · exact k4 h1 h2)]
  rw [val_append _ _ _ (by omega), k5, k1]

/-- What is read is written in the same bytes. -/
theorem num_val : ∀ (l : List UInt8) (n : Nat), n < l.length → (∀ i, i < n → 128 ≤ bt l i) → bt l n < 128 → (0 < n → bt l n ≠ 0) → num (val l (n + 1)) = l.take (n + 1)
  | [], n, h, _, _, _ => by simp at h
  | b :: l, 0, _, _, h, _ => by
    rw [bt_zero] at h
    have : val (b :: l) 1 = b.toNat := by simp [val, bt_zero]; omega
    rw [this, num_small h]
    simp
  | b :: l, n + 1, h0, h1, h2, h3 => by
    have hb := h1 0 (by omega)
    rw [bt_zero] at hb
    have hb2 : b.toNat < 256 := UInt8.toNat_lt b
    rw [bt_succ] at h2 h3
    have ih := num_val l n (by simp at h0; omega) (fun i hi => by have := h1 (i + 1) (by omega); rwa [bt_succ] at this) h2 (fun _ => h3 (by omega))
    have hpos : 1 ≤ val l (n + 1) := by
      rw [val]
      have : 1 * 1 ≤ bt l n % 128 * 128 ^ n := Nat.mul_le_mul (by have := h3 (by omega); omega) (Nat.pow_pos (by decide))
      omega
    rw [val_cons, num_great (by omega)]
    have e1 : (b.toNat % 128 + 128 * val l (n + 1)) % 128 + 128 = b.toNat := by omega
    have e2 : (b.toNat % 128 + 128 * val l (n + 1)) / 128 = val l (n + 1) := by omega
    rw [e1, e2, ih]
    simp
theorem num_fst {l : List UInt8} {v t : Nat} (h : fst l = (v, t, 0)) : num v = l.take t := by
  rcases fst_cases l with e | e | ⟨n, h0, h1, h2, h3, hb, e⟩
  · rw [e] at h; simp at h
  · rw [e] at h; simp at h
  · rw [e] at h
    simp at h
    obtain ⟨rfl, rfl⟩ := h
    exact num_val l n h1 h2 h3 (fun hn h => hb (.inr ⟨hn, h⟩))

/-- A number that is not above N, or what is wrong. -/
def bnd (l : List UInt8) (N : Int) (ab : Nat) : Nat × Nat × Nat :=
  if (fst l).2.2 ≠ 0 then (0, 0, (fst l).2.2) else if N < 0 ∨ N < ((fst l).1 : Int) then (0, 0, ab) else ((fst l).1, (fst l).2.1, 0)
/-- An int. -/
def rdI (l : List UInt8) : Int × Nat × Nat := (unf (fst l).1, (fst l).2.1, (fst l).2.2)
/-- N bytes. -/
def cutR (l : List UInt8) (a n : Nat) : List UInt8 × Nat × Nat := if l.length - a < n then ([], 0, 2) else ((l.drop a).take n, a + n, 0)
/-- A text of at most N bytes. -/
def rdT (l : List UInt8) (N : Int) : List UInt8 × Nat × Nat := if (bnd l N 5).2.2 ≠ 0 then ([], 0, (bnd l N 5).2.2) else cutR l (bnd l N 5).2.1 (bnd l N 5).1
/-- N bytes. -/
def rdR (l : List UInt8) (N : Int) : List UInt8 × Nat × Nat := if N < 0 then ([], 0, 1) else cutR l 0 N.toNat

theorem bnd_ok {l : List UInt8} {N : Int} {ab v t er : Nat} (h : bnd l N ab = (v, t, er)) : t ≤ l.length ∧ (er ≠ 0 → v = 0 ∧ t = 0) ∧ (er = 0 → (v : Int) ≤ N ∧ 0 ≤ N ∨ ab = 0) ∧ t ≤ 10 ∧ (v = 0 ∨ (v : Int) ≤ N) := by
  obtain ⟨h1, h2, h3, h4, h5⟩ := fst_ok (show fst l = ((fst l).1, (fst l).2.1, (fst l).2.2) from rfl)
  unfold bnd at h
  split at h
  · simp at h; omega
  · split at h
    · simp at h; omega
    · simp at h; omega
theorem cutR_ok {l x : List UInt8} {a n t er : Nat} (ha : a ≤ l.length) (h : cutR l a n = (x, t, er)) : t ≤ l.length ∧ (er ≠ 0 → x = [] ∧ t = 0) ∧ er ≤ 2 ∧ x.length ≤ l.length := by
  unfold cutR at h
  split at h
  · simp at h
    obtain ⟨rfl, rfl, rfl⟩ := h
    simp
  · simp at h
    obtain ⟨rfl, rfl, rfl⟩ := h
    simp
    omega

end Go.Proofs.YtbjgbigalfhnjaaGreatDoor

namespace Go.Proofs.YtbjgbigalfhnjaaGreatDoor
open Go.RowKit

/-- How many bytes n bits have. -/
def nby (n : Nat) : Nat := n / 8 + min (n % 8) 1
theorem nby_is (n : Nat) : nby n = (n + 7) / 8 := by unfold nby; omega
theorem nby_le (n : Nat) : n ≤ 8 * nby n := by unfold nby; omega
theorem nby_lt {n : Nat} (h : 0 < nby n) : 8 * (nby n - 1) < n := by unfold nby at *; omega

/-- The bytes of the row of n bits, the number V. -/
def rby (V n : Nat) : List UInt8 := (List.range (nby n)).map fun i => UInt8.ofNat (V / 256 ^ i % 256)
theorem rby_len (V n : Nat) : (rby V n).length = nby n := by simp [rby]
theorem rby_at (V n i : Nat) (h : i < nby n) : bt (rby V n) i = V / 256 ^ i % 256 := by
  unfold bt rby
  rw [List.getElem?_map, List.getElem?_range h]
  simp

/-- The number of which these are the bytes. -/
def ofB : List UInt8 → Nat
  | [] => 0
  | b :: l => b.toNat + 256 * ofB l
theorem ofB_lt : ∀ l : List UInt8, ofB l < 256 ^ l.length
  | [] => by simp [ofB]
  | b :: l => by
    have h1 := ofB_lt l
    have h2 : b.toNat < 256 := UInt8.toNat_lt b
    have h3 : 256 * (ofB l + 1) ≤ 256 * 256 ^ l.length := Nat.mul_le_mul_left _ h1
    rw [ofB, List.length_cons, Nat.pow_succ]
    omega
theorem ofB_at : ∀ (l : List UInt8) (i : Nat), ofB l / 256 ^ i % 256 = bt l i
  | [], i => by simp [ofB, bt]
  | b :: l, 0 => by
    have h2 : b.toNat < 256 := UInt8.toNat_lt b
    rw [ofB, bt_zero]
    omega
  | b :: l, i + 1 => by
    have h2 : b.toNat < 256 := UInt8.toNat_lt b
    rw [ofB, bt_succ, Nat.pow_succ, Nat.mul_comm (256 ^ i), ← Nat.div_div_eq_div_mul, show (b.toNat + 256 * ofB l) / 256 = ofB l by omega]
    exact ofB_at l i
/-- A bit of it is a byte's. -/
theorem ofB_bit (l : List UInt8) (i : Nat) : (ofB l).testBit i = (bt l (i / 8)).testBit (i % 8) := by
  rw [← ofB_at l (i / 8)]
  have e : (256 : Nat) ^ (i / 8) = 2 ^ (8 * (i / 8)) := by rw [show (256 : Nat) = 2 ^ 8 by decide, ← Nat.pow_mul]
  rw [e, show (256 : Nat) = 2 ^ 8 by decide, Nat.testBit_mod_two_pow, Nat.testBit_div_two_pow]
  have h : i % 8 < 8 := Nat.mod_lt _ (by decide)
  simp only [h, decide_true, Bool.true_and]
  congr 1
  omega
theorem bt_of_eq {l m : List UInt8} (hl : l.length = m.length) (h : ∀ i, i < l.length → bt l i = bt m i) : l = m := by
  apply List.ext_getElem hl
  intro i h1 h2
  have := h i h1
  unfold bt at this
  rw [List.getElem?_eq_getElem h1, List.getElem?_eq_getElem h2] at this
  exact UInt8.toNat_inj.1 this
/-- What is got is put in the same bytes. -/
theorem rby_ofB {l : List UInt8} {n : Nat} (hl : l.length = nby n) : rby (ofB l) n = l := by
  refine bt_of_eq (by rw [rby_len, hl]) fun i hi => ?_
  rw [rby_len] at hi
  rw [rby_at _ _ _ hi, ofB_at]
/-- What is put is got as it was. -/
theorem ofB_rby {V n : Nat} (h : V < 2 ^ n) : ofB (rby V n) = V := by
  apply Nat.eq_of_testBit_eq
  intro i
  rw [ofB_bit]
  by_cases hi : i / 8 < nby n
  · rw [rby_at _ _ _ hi]
    have e : (256 : Nat) ^ (i / 8) = 2 ^ (8 * (i / 8)) := by rw [show (256 : Nat) = 2 ^ 8 by decide, ← Nat.pow_mul]
    rw [e, show (256 : Nat) = 2 ^ 8 by decide, Nat.testBit_mod_two_pow, Nat.testBit_div_two_pow]
    have h8 : i % 8 < 8 := Nat.mod_lt _ (by decide)
    simp only [h8, decide_true, Bool.true_and]
    congr 1
    omega
  · have hn : n ≤ i := by have := nby_le n; omega
    have h0 : bt (rby V n) (i / 8) = 0 := by
      unfold bt
      rw [List.getElem?_eq_none (by rw [rby_len]; omega)]
      rfl
    rw [h0, Nat.zero_testBit, Nat.testBit_lt_two_pow (Nat.lt_of_lt_of_le h (Nat.pow_le_pow_right (by decide) hn))]

end Go.Proofs.YtbjgbigalfhnjaaGreatDoor

namespace Go.Proofs.YtbjgbigalfhnjaaGreatDoor

/-- How many ones there are among the lowest i bits of x. -/
def rk (x : Nat) : Nat → Nat
  | 0 => 0
  | i + 1 => rk x i + x / 2 ^ i % 2

theorem rk_le (x i : Nat) : rk x i ≤ i := by
  induction i with
  | zero => simp [rk]
  | succ i ih => simp only [rk]; omega

theorem rk_add (x a i : Nat) : rk x (a + i) = rk x a + rk (x / 2 ^ a) i := by
  induction i with
  | zero => simp [rk]
  | succ i ih =>
    rw [← Nat.add_assoc, rk, ih, rk, Nat.div_div_eq_div_mul, ← Nat.pow_add]
    omega

theorem bit_mod (x i j : Nat) (h : i < j) : x % 2 ^ j / 2 ^ i % 2 = x / 2 ^ i % 2 := by
  rw [← Nat.toNat_testBit, ← Nat.toNat_testBit, Nat.testBit_mod_two_pow]
  simp [h]

theorem rk_mod (x i j : Nat) (h : i ≤ j) : rk (x % 2 ^ j) i = rk x i := by
  induction i with
  | zero => rfl
  | succ i ih => rw [rk, rk, ih (by omega), bit_mod x i j (by omega)]

theorem rk_zero (i : Nat) : rk 0 i = 0 := by
  induction i with
  | zero => rfl
  | succ i ih => simp [rk, ih]

theorem rk_mask (x m : Nat) (h : m ≤ 64) : rk (x &&& (2 ^ m - 1)) 64 = rk x m := by
  rw [Nat.and_two_pow_sub_one_eq_mod]
  have e : 64 = m + (64 - m) := by omega
  have e2 : x % 2 ^ m / 2 ^ m = 0 := Nat.div_eq_of_lt (Nat.mod_lt _ (Nat.two_pow_pos m))
  rw [e, rk_add, rk_mod x m m (Nat.le_refl _), e2, rk_zero, Nat.add_zero]

theorem rk_mono (x : Nat) {i j : Nat} (h : i ≤ j) : rk x i ≤ rk x j := by
  have e : j = i + (j - i) := by omega
  rw [e, rk_add]
  omega

/-! ### Digits in base 256 -/
/-- The number whose digits in base 256 are these, the lowest first. -/
def dig : List Nat → Nat
  | [] => 0
  | b :: r => b + 256 * dig r
/-- n digits of x. -/
def digs : Nat → Nat → List Nat
  | 0, _ => []
  | n + 1, x => x % 256 :: digs n (x / 256)
/-- n digits that are all c. -/
def rep (c : Nat) : Nat → Nat
  | 0 => 0
  | n + 1 => c + 256 * rep c n

theorem dig_digs (n x : Nat) (h : x < 256 ^ n) : dig (digs n x) = x := by
  induction n generalizing x with
  | zero => simp at h; simp [digs, dig, h]
  | succ n ih =>
    rw [digs, dig, ih (x / 256) (by rw [Nat.pow_succ] at h; exact Nat.div_lt_of_lt_mul (by rw [Nat.mul_comm]; exact h))]
    omega

theorem digs_lt (n x : Nat) : ∀ b ∈ digs n x, b < 256 := by
  induction n generalizing x with
  | zero => intro b hb; simp [digs] at hb
  | succ n ih =>
    intro b hb
    simp only [digs, List.mem_cons] at hb
    rcases hb with rfl | hb
    · omega
    · exact ih _ b hb

theorem digs_len (n x : Nat) : (digs n x).length = n := by
  induction n generalizing x with
  | zero => rfl
  | succ n ih => simp [digs, ih]

theorem rk_digs (n x : Nat) : rk x (8 * n) = ((digs n x).map (fun b => rk b 8)).sum := by
  induction n generalizing x with
  | zero => rfl
  | succ n ih =>
    rw [show 8 * (n + 1) = 8 + 8 * n by omega, rk_add, digs, List.map_cons, List.sum_cons, ← ih]
    rw [← rk_mod x 8 8 (Nat.le_refl _)]

theorem and_split (a c h k : Nat) (ha : a < 256) (hc : c < 256) : (a + 256 * h) &&& (c + 256 * k) = (a &&& c) + 256 * (h &&& k) := by
  have e1 : ((a + 256 * h) &&& (c + 256 * k)) % 2 ^ 8 = a &&& c := by
    rw [Nat.and_mod_two_pow, show (a + 256 * h) % 2 ^ 8 = a by omega, show (c + 256 * k) % 2 ^ 8 = c by omega]
  have e2 : ((a + 256 * h) &&& (c + 256 * k)) / 2 ^ 8 = h &&& k := by
    rw [Nat.and_div_two_pow, show (a + 256 * h) / 2 ^ 8 = h by omega, show (c + 256 * k) / 2 ^ 8 = k by omega]
  omega

theorem dig_and (c : Nat) (hc : c < 256) (ds : List Nat) (h : ∀ b ∈ ds, b < 256) : dig ds &&& rep c ds.length = dig (ds.map (fun b => b &&& c)) := by
  induction ds with
  | nil => simp [dig, rep]
  | cons b r ih =>
    rw [dig, List.length_cons, rep, and_split _ _ _ _ (h b (by simp)) hc, ih (fun b hb => h b (by simp [hb]))]
    rfl

theorem low1 : ∀ b : Fin 256, ∀ t : Fin 2, (b.val / 2 + 128 * t.val) &&& 85 = (b.val / 2) &&& 85 := by decide +kernel
theorem low2 : ∀ b : Fin 256, ∀ t : Fin 4, (b.val / 4 + 64 * t.val) &&& 51 = (b.val / 4) &&& 51 := by decide +kernel

theorem dig_half (ds : List Nat) (h : ∀ b ∈ ds, b < 256) : (dig ds / 2) &&& rep 85 ds.length = dig (ds.map (fun b => (b / 2) &&& 85)) := by
  induction ds with
  | nil => simp [dig, rep]
  | cons b r ih =>
    have hb := h b (by simp)
    have e : dig (b :: r) / 2 = (b / 2 + 128 * (dig r % 2)) + 256 * (dig r / 2) := by rw [dig]; omega
    rw [e, List.length_cons, rep, and_split _ _ _ _ (by omega) (by omega), ih (fun b hb => h b (by simp [hb]))]
    have := low1 ⟨b, hb⟩ ⟨dig r % 2, by omega⟩
    simp only at this
    rw [this]
    rfl

theorem dig_quarter (ds : List Nat) (h : ∀ b ∈ ds, b < 256) : (dig ds / 4) &&& rep 51 ds.length = dig (ds.map (fun b => (b / 4) &&& 51)) := by
  induction ds with
  | nil => simp [dig, rep]
  | cons b r ih =>
    have hb := h b (by simp)
    have e : dig (b :: r) / 4 = (b / 4 + 64 * (dig r % 4)) + 256 * (dig r / 4) := by rw [dig]; omega
    rw [e, List.length_cons, rep, and_split _ _ _ _ (by omega) (by omega), ih (fun b hb => h b (by simp [hb]))]
    have := low2 ⟨b, hb⟩ ⟨dig r % 4, by omega⟩
    simp only at this
    rw [this]
    rfl

theorem dig_nibble (ds : List Nat) (h : ∀ b ∈ ds, b % 16 ≤ 4 ∧ b / 16 ≤ 4) : (dig ds / 16 + dig ds) &&& rep 15 ds.length = dig (ds.map (fun b => (b / 16 + b) &&& 15)) := by
  induction ds with
  | nil => simp [dig, rep]
  | cons b r ih =>
    have hb := h b (by simp)
    have hr : dig r % 16 ≤ 4 := by
      cases r with
      | nil => simp [dig]
      | cons c s => have := h c (by simp); rw [dig]; omega
    have e : dig (b :: r) / 16 + dig (b :: r) = (b / 16 + b + 16 * (dig r % 16)) + 256 * (dig r / 16 + dig r) := by rw [dig]; omega
    rw [e, List.length_cons, rep, and_split _ _ _ _ (by omega) (by omega), ih (fun b hb => h b (by simp [hb]))]
    have e2 : (b / 16 + b + 16 * (dig r % 16)) &&& 15 = (b / 16 + b) &&& 15 := by
      rw [show 15 = 2 ^ 4 - 1 from rfl, Nat.and_two_pow_sub_one_eq_mod, Nat.and_two_pow_sub_one_eq_mod]
      omega
    rw [e2]
    rfl

theorem dig_plus (f g : Nat → Nat) (ds : List Nat) : dig (ds.map f) + dig (ds.map g) = dig (ds.map (fun b => f b + g b)) := by
  induction ds with
  | nil => simp [dig]
  | cons b r ih =>
    simp only [List.map_cons, dig]
    omega

def t1 (b : Nat) : Nat := ((b / 2) &&& 85) + (b &&& 85)
def t2 (b : Nat) : Nat := ((b / 4) &&& 51) + (b &&& 51)
def t3 (b : Nat) : Nat := (b / 16 + b) &&& 15
theorem t1_lt : ∀ b : Fin 256, t1 b.val < 256 := by decide +kernel
theorem t2_lt : ∀ b : Fin 256, t2 b.val < 256 ∧ t2 (t1 b.val) % 16 ≤ 4 ∧ t2 (t1 b.val) / 16 ≤ 4 := by decide +kernel
theorem t3_rk : ∀ b : Fin 256, t3 (t2 (t1 b.val)) = rk b.val 8 := by decide +kernel

def s1 (x : Nat) : Nat := ((x / 2) &&& 6148914691236517205) + (x &&& 6148914691236517205)
def s2 (x : Nat) : Nat := ((x / 4) &&& 3689348814741910323) + (x &&& 3689348814741910323)
def s3 (x : Nat) : Nat := (x / 16 + x) &&& 1085102592571150095
theorem rep85 : rep 85 8 = 6148914691236517205 := by decide +kernel
theorem rep51 : rep 51 8 = 3689348814741910323 := by decide +kernel
theorem rep15 : rep 15 8 = 1085102592571150095 := by decide +kernel

theorem s_all (x : Nat) (hx : x < 18446744073709551616) : s3 (s2 (s1 x)) = dig ((digs 8 x).map (fun b => rk b 8)) := by
  have hl : (digs 8 x).length = 8 := digs_len 8 x
  have hd := digs_lt 8 x
  have e1 : s1 x = dig ((digs 8 x).map t1) := by
    unfold s1
    have q1 := dig_half _ hd
    have q2 := dig_and 85 (by omega) _ hd
    rw [hl, rep85, dig_digs 8 x hx] at q1 q2
    rw [q1, q2, dig_plus]
    rfl
  have hd1 : ∀ b ∈ (digs 8 x).map t1, b < 256 := by
    intro b hb
    obtain ⟨c, hc, rfl⟩ := List.mem_map.1 hb
    exact t1_lt ⟨c, hd c hc⟩
  have hl1 : ((digs 8 x).map t1).length = 8 := by simp [hl]
  have e2 : s2 (s1 x) = dig (((digs 8 x).map t1).map t2) := by
    rw [e1]
    unfold s2
    have q1 := dig_quarter _ hd1
    have q2 := dig_and 51 (by omega) _ hd1
    rw [hl1, rep51] at q1 q2
    rw [q1, q2, dig_plus]
    rfl
  have hd2 : ∀ b ∈ ((digs 8 x).map t1).map t2, b % 16 ≤ 4 ∧ b / 16 ≤ 4 := by
    intro b hb
    obtain ⟨c, hc, rfl⟩ := List.mem_map.1 hb
    obtain ⟨d, hd', rfl⟩ := List.mem_map.1 hc
    exact (t2_lt ⟨d, hd d hd'⟩).2
  have hl2 : (((digs 8 x).map t1).map t2).length = 8 := by simp [hl]
  rw [e2]
  unfold s3
  have q3 := dig_nibble _ hd2
  rw [hl2, rep15] at q3
  rw [q3, List.map_map, List.map_map]
  congr 1
  refine List.map_congr_left ?_
  intro b hb
  exact t3_rk ⟨b, hd b hb⟩

theorem div_low (A B m : Nat) (h : A < m) : (A + m * B) / m = B := by
  rw [Nat.add_mul_div_left _ _ (by omega), Nat.div_eq_of_lt h, Nat.zero_add]

/-- What the last steps make of eight digits none of which is above 8. -/
theorem fold8 (a b c d e f g h : Nat) (ha : a ≤ 8) (hb : b ≤ 8) (hc : c ≤ 8) (hd : d ≤ 8) (he : e ≤ 8) (hf : f ≤ 8) (hg : g ≤ 8) (hh : h ≤ 8) :
    ∃ y4 y5 y6 : Nat, let y := dig [a, b, c, d, e, f, g, h]
      y < 18446744073709551616 ∧ y + y / 256 = y4 ∧ y4 < 18446744073709551616 ∧ y4 + y4 / 65536 = y5 ∧ y5 < 18446744073709551616 ∧ y5 + y5 / 4294967296 = y6 ∧ y6 < 9223372036854775808 ∧ y6 % 128 = a + b + c + d + e + f + g + h := by
  have e0 : dig [a, b, c, d, e, f, g, h] = a + 256 * (b + 256 * (c + 256 * (d + 256 * (e + 256 * (f + 256 * (g + 256 * h)))))) := by simp [dig]
  generalize dig [a, b, c, d, e, f, g, h] = y at *
  have e4 : y / 256 = b + 256 * (c + 256 * (d + 256 * (e + 256 * (f + 256 * (g + 256 * h))))) := by rw [e0]; exact div_low _ _ _ (by omega)
  have e5 : y + y / 256 = ((a + b) + 256 * (b + c)) + 65536 * ((c + d) + 256 * ((d + e) + 256 * ((e + f) + 256 * ((f + g) + 256 * ((g + h) + 256 * h))))) := by rw [e4, e0]; clear e0 e4; omega
  have e6 : (y + y / 256) / 65536 = (c + d) + 256 * ((d + e) + 256 * ((e + f) + 256 * ((f + g) + 256 * ((g + h) + 256 * h)))) := by rw [e5]; exact div_low _ _ _ (by clear e0 e4 e5; omega)
  have e7 : (y + y / 256) + (y + y / 256) / 65536 = ((a + b + c + d) + 256 * (b + c + d + e) + 65536 * ((c + d + e + f) + 256 * (d + e + f + g))) + 4294967296 * ((e + f + g + h) + 256 * (f + g + h) + 65536 * (g + h) + 16777216 * h) := by rw [e6, e5]; clear e0 e4 e5 e6; omega
  have e8 : ((y + y / 256) + (y + y / 256) / 65536) / 4294967296 = (e + f + g + h) + 256 * (f + g + h) + 65536 * (g + h) + 16777216 * h := by rw [e7]; exact div_low _ _ _ (by clear e0 e4 e5 e6 e7; omega)
  refine ⟨_, _, _, ?_, rfl, ?_, rfl, ?_, rfl, ?_, ?_⟩
  · rw [e0]; clear e0 e4 e5 e6 e7 e8; omega
  · rw [e5]; clear e0 e4 e5 e6 e7 e8; omega
  · rw [e7]; clear e0 e4 e5 e6 e7 e8; omega
  · rw [e8, e7]; clear e0 e4 e5 e6 e7 e8; omega
  · rw [e8, e7]; clear e0 e4 e5 e6 e7 e8; omega

theorem digs8 (x : Nat) : digs 8 x = [x % 256, x / 256 % 256, x / 256 / 256 % 256, x / 256 / 256 / 256 % 256, x / 256 / 256 / 256 / 256 % 256, x / 256 / 256 / 256 / 256 / 256 % 256, x / 256 / 256 / 256 / 256 / 256 / 256 % 256, x / 256 / 256 / 256 / 256 / 256 / 256 / 256 % 256] := rfl

/-- The last steps. -/
theorem s_fold (x : Nat) (hx : x < 18446744073709551616) : ∃ y4 y5 y6 : Nat, let y := s3 (s2 (s1 x))
      y < 18446744073709551616 ∧ y + y / 256 = y4 ∧ y4 < 18446744073709551616 ∧ y4 + y4 / 65536 = y5 ∧ y5 < 18446744073709551616 ∧ y5 + y5 / 4294967296 = y6 ∧ y6 < 9223372036854775808 ∧ y6 % 128 = rk x 64 := by
  rw [s_all x hx, show (64 : Nat) = 8 * 8 from rfl, rk_digs, digs8]
  simp only [List.map_cons, List.map_nil, List.sum_cons, List.sum_nil]
  have L : ∀ b, rk b 8 ≤ 8 := fun b => rk_le b 8
  obtain ⟨y4, y5, y6, h1, h2, h3, h4, h5, h6, h7, h8⟩ := fold8 _ _ _ _ _ _ _ _ (L (x % 256)) (L (x / 256 % 256)) (L (x / 256 / 256 % 256)) (L (x / 256 / 256 / 256 % 256)) (L (x / 256 / 256 / 256 / 256 % 256)) (L (x / 256 / 256 / 256 / 256 / 256 % 256)) (L (x / 256 / 256 / 256 / 256 / 256 / 256 % 256)) (L (x / 256 / 256 / 256 / 256 / 256 / 256 / 256 % 256))
  exact ⟨y4, y5, y6, h1, h2, h3, h4, h5, h6, h7, by rw [h8]; omega⟩

theorem s1_lt (x : Nat) : s1 x < 18446744073709551616 := by
  have h1 : (x / 2) &&& 6148914691236517205 ≤ 6148914691236517205 := Nat.and_le_right
  have h2 : x &&& 6148914691236517205 ≤ 6148914691236517205 := Nat.and_le_right
  unfold s1; omega
theorem s2_lt (x : Nat) : s2 x < 9223372036854775808 := by
  have h1 : (x / 4) &&& 3689348814741910323 ≤ 3689348814741910323 := Nat.and_le_right
  have h2 : x &&& 3689348814741910323 ≤ 3689348814741910323 := Nat.and_le_right
  unfold s2; omega

/-! ### The number of the k-th one -/
/-- The number below n of the one that has just k ones below it; -1 if there is none. -/
def sel (x : Nat) (k : Int) : Nat → Int
  | 0 => -1
  | n + 1 => if x / 2 ^ n % 2 = 1 ∧ (rk x n : Int) = k then (n : Int) else sel x k n

theorem sel_of (x : Nat) (k : Int) (n p : Nat) (hp : p < n) (h1 : x / 2 ^ p % 2 = 1) (h2 : (rk x p : Int) = k) : sel x k n = p := by
  induction n with
  | zero => omega
  | succ n ih =>
    rw [sel]
    by_cases hpn : p = n
    · subst hpn; rw [if_pos ⟨h1, h2⟩]
    · rw [if_neg, ih (by omega)]
      rintro ⟨_, h4⟩
      have := rk_mono x (show p + 1 ≤ n by omega)
      rw [rk] at this
      omega

theorem sel_none (x : Nat) (k : Int) (n : Nat) (h : ∀ p, p < n → x / 2 ^ p % 2 = 1 → (rk x p : Int) ≠ k) : sel x k n = -1 := by
  induction n with
  | zero => rfl
  | succ n ih =>
    rw [sel, if_neg, ih (fun p hp => h p (by omega))]
    rintro ⟨h3, h4⟩
    exact h n (by omega) h3 h4

theorem sel_cases (x : Nat) (k : Int) (n : Nat) : sel x k n = -1 ∨ ∃ p : Nat, p < n ∧ sel x k n = p ∧ x / 2 ^ p % 2 = 1 ∧ (rk x p : Int) = k := by
  induction n with
  | zero => exact Or.inl rfl
  | succ n ih =>
    rw [sel]
    by_cases h : x / 2 ^ n % 2 = 1 ∧ (rk x n : Int) = k
    · rw [if_pos h]; exact Or.inr ⟨n, by omega, rfl, h.1, h.2⟩
    · rw [if_neg h]
      rcases ih with h' | ⟨p, hp, h1, h2, h3⟩
      · exact Or.inl h'
      · exact Or.inr ⟨p, by omega, h1, h2, h3⟩

/-- Outside of the ranks there is none. -/
theorem sel_out (x : Nat) (k : Int) (h : k < 0 ∨ (rk x 64 : Int) ≤ k) : sel x k 64 = -1 := by
  refine sel_none x k 64 fun p hp h1 h2 => ?_
  have := rk_mono x (show p + 1 ≤ 64 by omega)
  rw [rk] at this
  omega

/-! ### What is cut out -/
/-- The word x, moved so that its bit 'at' lies at 0. -/
def sh (x : Nat) (at_ : Int) : Nat := if at_ ≤ -64 ∨ 64 ≤ at_ then 0 else if at_ < 0 then x * 2 ^ (-at_).toNat else x / 2 ^ at_.toNat

theorem mod_succ (y i : Nat) : y % 2 ^ (i + 1) = y % 2 ^ i + 2 ^ i * (y / 2 ^ i % 2) := by
  rw [Nat.pow_succ, Nat.mod_mul]

theorem sh_bit (x : Nat) (hx : x < 18446744073709551616) (at_ : Int) (h1 : -63 ≤ at_) (h2 : at_ < 64) (i : Nat) (hi : i ≤ 63) :
    sh x at_ / 2 ^ i % 2 = 1 ↔ (0 ≤ at_ + i ∧ at_ + i ≤ 63 ∧ x / 2 ^ (at_ + i).toNat % 2 = 1) := by
  unfold sh
  rw [if_neg (by omega)]
  by_cases h0 : at_ < 0
  · rw [if_pos h0]
    obtain ⟨s, hs⟩ := Int.eq_ofNat_of_zero_le (show 0 ≤ -at_ by omega)
    rw [hs]
    simp only [Int.toNat_natCast]
    by_cases hi2 : i < s
    · have e : x * 2 ^ s / 2 ^ i % 2 = 0 := by
        rw [show s = (s - i - 1) + 1 + i by omega, Nat.pow_add, ← Nat.mul_assoc, Nat.mul_div_cancel _ (Nat.two_pow_pos i), Nat.pow_succ, ← Nat.mul_assoc]
        omega
      rw [e]
      constructor
      · intro h; omega
      · intro h; omega
    · have e : x * 2 ^ s / 2 ^ i = x / 2 ^ (i - s) := by
        rw [show i = s + (i - s) by omega, Nat.pow_add, ← Nat.div_div_eq_div_mul, Nat.mul_div_cancel _ (Nat.two_pow_pos s)]
        rw [show s + (i - s) - s = i - s by omega]
      rw [e, show (at_ + i).toNat = i - s by omega]
      constructor
      · intro h; exact ⟨by omega, by omega, h⟩
      · intro h; exact h.2.2
  · rw [if_neg h0]
    obtain ⟨a, ha⟩ := Int.eq_ofNat_of_zero_le (show 0 ≤ at_ by omega)
    subst ha
    simp only [Int.toNat_natCast]
    rw [Nat.div_div_eq_div_mul, ← Nat.pow_add, show ((a : Int) + (i : Int)).toNat = a + i by omega]
    constructor
    · intro h
      refine ⟨by omega, ?_, h⟩
      have hle : ¬ 64 ≤ a + i := by
        intro h64
        have hp := Nat.pow_le_pow_right (n := 2) (by omega) h64
        have : x / 2 ^ (a + i) = 0 := Nat.div_eq_of_lt (by omega)
        omega
      omega
    · intro h; exact h.2.2

theorem sh_out (x : Nat) (at_ : Int) (h : at_ ≤ -64 ∨ 64 ≤ at_) : sh x at_ = 0 := by
  unfold sh; rw [if_pos h]

theorem mod_mod_pow (y a b : Nat) (h : a ≤ b) : y % 2 ^ b % 2 ^ a = y % 2 ^ a :=
  Nat.mod_mod_of_dvd _ (Nat.pow_dvd_pow 2 h)

end Go.Proofs.YtbjgbigalfhnjaaGreatDoor
