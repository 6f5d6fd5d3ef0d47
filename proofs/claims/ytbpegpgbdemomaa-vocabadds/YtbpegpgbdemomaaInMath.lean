/-
  Texts with their numbers, by a table of slots, plainly.
-/
import Derived.Test.YtbpegpgbdemomaaTokMath
namespace Go.Proofs.Ytbpegpgbdemomaa
open Go.RowKit

/-- The number of a text in a list. -/
def fnd (ts : List (List UInt8)) (s : List UInt8) : Int := if s ∈ ts then (ts.idxOf s : Int) else -1
/-- The list behind a text that comes. -/
def putN (ts : List (List UInt8)) (s : List UInt8) : List (List UInt8) := if s ∈ ts then ts else ts ++ [s]
def putAll (ts l : List (List UInt8)) : List (List UInt8) := l.foldl putN ts
theorem fnd_none {ts : List (List UInt8)} {s : List UInt8} (h : s ∉ ts) : fnd ts s = -1 := if_neg h
theorem fnd_some {ts : List (List UInt8)} {s : List UInt8} (h : s ∈ ts) : fnd ts s = (ts.idxOf s : Int) := if_pos h
theorem fnd_lt {ts : List (List UInt8)} {s : List UInt8} : -1 ≤ fnd ts s ∧ fnd ts s < ts.length := by
  by_cases h : s ∈ ts
  · rw [fnd_some h]; have := List.idxOf_lt_length_of_mem h; omega
  · rw [fnd_none h]; omega
theorem getD_mem {ts : List (List UInt8)} {i : Nat} (h : i < ts.length) : ts.getD i [] ∈ ts := by
  rw [List.getD_eq_getElem?_getD, List.getElem?_eq_getElem h]; exact List.getElem_mem h
theorem getD_idx {ts : List (List UInt8)} {s : List UInt8} (h : s ∈ ts) : ts.getD (ts.idxOf s) [] = s := by
  have hl := List.idxOf_lt_length_of_mem h
  rw [List.getD_eq_getElem?_getD, List.getElem?_eq_getElem hl]
  simp
/-- Unlike each other. -/
theorem fnd_at {ts : List (List UInt8)} (hd : ts.Nodup) {i : Nat} (hi : i < ts.length) {s : List UInt8} (e : ts.getD i [] = s) : fnd ts s = i := by
  have hm : s ∈ ts := by rw [← e]; exact getD_mem hi
  rw [fnd_some hm]
  have h1 := getD_idx hm
  have hl := List.idxOf_lt_length_of_mem hm
  rw [List.getD_eq_getElem?_getD, List.getElem?_eq_getElem hl] at h1
  rw [List.getD_eq_getElem?_getD, List.getElem?_eq_getElem hi] at e
  simp only [Option.getD_some] at h1 e
  have hp := List.pairwise_iff_getElem.1 hd
  rcases Nat.lt_trichotomy (ts.idxOf s) i with h | h | h
  · exact absurd (h1.trans e.symm) (hp _ _ hl hi h)
  · rw [h]
  · exact absurd (e.trans h1.symm) (hp _ _ hi hl h)
/-- The first one that is like it. -/
theorem fnd_first {ts : List (List UInt8)} {i : Nat} (hi : i < ts.length) {s : List UInt8} (e : ts.getD i [] = s) (hn : ∀ j, j < i → ts.getD j [] ≠ s) : fnd ts s = i := by
  have hm : s ∈ ts := by rw [← e]; exact getD_mem hi
  rw [fnd_some hm]
  have h1 := getD_idx hm
  rcases Nat.lt_trichotomy (ts.idxOf s) i with h | h | h
  · exact absurd h1 (hn _ h)
  · rw [h]
  · exfalso
    have := List.not_of_lt_findIdx (p := (· == s)) (xs := ts) (i := i) h
    rw [List.getD_eq_getElem?_getD, List.getElem?_eq_getElem hi] at e
    simp only [Option.getD_some] at e
    rw [e] at this
    simp at this
theorem fnd_not {ts : List (List UInt8)} {s : List UInt8} (hn : ∀ j, j < ts.length → ts.getD j [] ≠ s) : fnd ts s = -1 := by
  refine fnd_none fun hm => ?_
  exact hn _ (List.idxOf_lt_length_of_mem hm) (getD_idx hm)
theorem fnd_neg {ts : List (List UInt8)} {s : List UInt8} (h : fnd ts s < 0) : s ∉ ts := fun hm => by
  rw [fnd_some hm] at h; omega
theorem fnd_pos {ts : List (List UInt8)} {s : List UInt8} (h : ¬ fnd ts s < 0) : s ∈ ts := Classical.byContradiction fun hm => by
  rw [fnd_none hm] at h; omega
theorem putN_in {ts : List (List UInt8)} {s : List UInt8} (h : s ∈ ts) : putN ts s = ts := if_pos h
theorem putN_new {ts : List (List UInt8)} {s : List UInt8} (h : s ∉ ts) : putN ts s = ts ++ [s] := if_neg h
theorem putN_nodup {ts : List (List UInt8)} (h : ts.Nodup) (s : List UInt8) : (putN ts s).Nodup := by
  by_cases hm : s ∈ ts
  · rw [putN_in hm]; exact h
  · rw [putN_new hm]
    exact List.nodup_append.2 ⟨h, by simp, fun a ha b hb => by
      simp at hb; subst hb
      exact fun e => hm (e ▸ ha)⟩
theorem putN_len (ts : List (List UInt8)) (s : List UInt8) : (putN ts s).length ≤ ts.length + 1 ∧ ts.length ≤ (putN ts s).length := by
  by_cases hm : s ∈ ts
  · rw [putN_in hm]; omega
  · rw [putN_new hm]; simp
theorem fnd_new {ts : List (List UInt8)} {s : List UInt8} (h : s ∉ ts) : fnd (ts ++ [s]) s = ts.length := by
  refine fnd_first (by simp) (by simp) fun j hj e => h ?_
  rw [List.getD_eq_getElem?_getD, List.getElem?_append_left hj, List.getElem?_eq_getElem hj] at e
  simp only [Option.getD_some] at e
  rw [← e]; exact List.getElem_mem hj
/-- What a put tells: the number that the text has behind it. -/
theorem put_tells (ts : List (List UInt8)) (s : List UInt8) : fnd (putN ts s) s = if s ∈ ts then fnd ts s else (ts.length : Int) := by
  by_cases h : s ∈ ts
  · rw [putN_in h, if_pos h]
  · rw [putN_new h, if_neg h, fnd_new h]
theorem putAll_nil (ts : List (List UInt8)) : putAll ts [] = ts := rfl
theorem putAll_snoc (ts l : List (List UInt8)) (s : List UInt8) : putAll ts (l ++ [s]) = putN (putAll ts l) s := by simp [putAll]
theorem putAll_nodup (l : List (List UInt8)) : ∀ {ts : List (List UInt8)}, ts.Nodup → (putAll ts l).Nodup := by
  induction l with
  | nil => intro ts h; exact h
  | cons s l ih => intro ts h; exact ih (putN_nodup h s)
theorem putAll_len (l : List (List UInt8)) : ∀ (ts : List (List UInt8)), (putAll ts l).length ≤ ts.length + l.length := by
  induction l with
  | nil => intro ts; simp [putAll]
  | cons s l ih => intro ts; have h1 := ih (putN ts s); have h2 := (putN_len ts s).1; simp [putAll] at h1 ⊢; omega

/-- How many slots there are. -/
def slN : Nat → Nat
  | 0 => 8
  | n + 1 => if slN n < 2 * (n + 1) then 2 * slN n else slN n
theorem slN_pow : ∀ n : Nat, ∃ k, slN n = 2 ^ (k + 3)
  | 0 => ⟨0, rfl⟩
  | n + 1 => by
    obtain ⟨k, hk⟩ := slN_pow n
    unfold slN
    split
    · exact ⟨k + 1, by rw [hk, show k + 1 + 3 = (k + 3) + 1 from by omega, Nat.pow_succ' (n := k + 3)]⟩
    · exact ⟨k, hk⟩
theorem slN_even (n : Nat) : slN n % 8 = 0 ∧ 8 ≤ slN n := by
  obtain ⟨k, hk⟩ := slN_pow n
  have : slN n = 8 * 2 ^ k := by rw [hk, Nat.pow_add]; omega
  have h2 := Nat.two_pow_pos k
  omega
theorem slN_ge : ∀ n : Nat, 2 * n ≤ slN n ∧ (slN n = 8 ∨ slN n < 4 * n)
  | 0 => ⟨by simp [slN], .inl rfl⟩
  | n + 1 => by
    obtain ⟨h1, h2⟩ := slN_ge n
    have h3 := slN_even n
    unfold slN
    split
    · omega
    · omega
theorem slN_le (n : Nat) : slN n ≤ 4 * n + 8 := by have := (slN_ge n).2; omega
theorem pow_half {a b : Nat} (h : 2 ^ a < 2 ^ b) : 2 * 2 ^ a ≤ 2 ^ b := by
  have hab : a < b := (Nat.pow_lt_pow_iff_right (by decide)).1 h
  have := Nat.pow_le_pow_right (n := 2) (by decide) (show a + 1 ≤ b from hab)
  rw [Nat.pow_succ] at this
  omega
/-- The document's way: doubled as long as they are too few. -/
theorem sl_next {n k : Nat} (h : 2 ^ (k + 3) < 2 * n) (hle : 2 ^ (k + 3) ≤ slN n) : 2 ^ (k + 1 + 3) ≤ slN n := by
  obtain ⟨b, hb⟩ := slN_pow n
  have h1 := (slN_ge n).1
  rw [hb] at h1 hle ⊢
  have := pow_half (show 2 ^ (k + 3) < 2 ^ (b + 3) by omega)
  rw [show k + 1 + 3 = (k + 3) + 1 from by omega, Nat.pow_succ]
  omega
theorem sl_end {n k : Nat} (h : ¬ 2 ^ (k + 3) < 2 * n) (hle : 2 ^ (k + 3) ≤ slN n) : 2 ^ (k + 3) = slN n := by
  obtain ⟨b, hb⟩ := slN_pow n
  have h1 := (slN_ge n).2
  have h8 : 8 ≤ 2 ^ (k + 3) := by have := Nat.two_pow_pos k; rw [Nat.pow_add]; omega
  rw [hb] at h1 hle ⊢
  by_cases hlt : 2 ^ (k + 3) < 2 ^ (b + 3)
  · have := pow_half hlt
    omega
  · omega

/-- One slot set. -/
def setF (f : Nat → Nat) (p v : Nat) : Nat → Nat := fun k => if k = p then v else f k
theorem setF_same (f : Nat → Nat) (p v : Nat) : setF f p v p = v := if_pos rfl
theorem setF_other (f : Nat → Nat) {p k : Nat} (v : Nat) (h : k ≠ p) : setF f p v k = f k := if_neg h
/-- How many slots are taken. -/
def cnt (f : Nat → Nat) : Nat → Nat
  | 0 => 0
  | k + 1 => cnt f k + (if f k = 0 then 0 else 1)
theorem cnt_zero : ∀ m : Nat, cnt (fun _ => 0) m = 0
  | 0 => rfl
  | m + 1 => by simp [cnt, cnt_zero m]
theorem cnt_free (f : Nat → Nat) : ∀ m : Nat, cnt f m < m → ∃ p, p < m ∧ f p = 0
  | 0, h => by simp [cnt] at h
  | m + 1, h => by
    by_cases h0 : f m = 0
    · exact ⟨m, by omega, h0⟩
    · simp [cnt, h0] at h
      obtain ⟨p, hp, h1⟩ := cnt_free f m h
      exact ⟨p, by omega, h1⟩
theorem cnt_setF (f : Nat → Nat) (p v : Nat) : ∀ m : Nat, cnt (setF f p v) m ≤ cnt f m + (if p < m then 1 else 0)
  | 0 => by simp [cnt]
  | m + 1 => by
    have ih := cnt_setF f p v m
    by_cases hpm : m = p
    · subst hpm
      simp only [cnt, Nat.lt_irrefl, if_false] at ih ⊢
      split <;> split <;> simp <;> omega
    · simp only [cnt, setF_other f v hpm] at ih ⊢
      have h1 : (if p < m + 1 then 1 else 0) = (if p < m then 1 else 0) := by
        by_cases hlt : p < m
        · rw [if_pos hlt, if_pos (by omega)]
        · rw [if_neg hlt, if_neg (by omega)]
      rw [h1]
      generalize (if p < m then 1 else 0) = u at *
      generalize (if f m = 0 then 0 else 1) = u2 at *
      omega
theorem least {P : Nat → Prop} : ∀ n : Nat, P n → ∃ j, j ≤ n ∧ P j ∧ ∀ k, k < j → ¬ P k := fun n => by
  induction n using Nat.strongRecOn with
  | _ n ih =>
    intro hn
    by_cases h : ∃ k, k < n ∧ P k
    · obtain ⟨k, hk, hp⟩ := h
      obtain ⟨j, hj, h1, h2⟩ := ih k hk hp
      exact ⟨j, by omega, h1, h2⟩
    · exact ⟨n, Nat.le_refl _, hn, fun k hk hp => h ⟨k, hk, hp⟩⟩
/-- Any slot is met from anywhere. -/
theorem met {m : Nat} (a : Nat) {p : Nat} (hp : p < m) : ∃ j, j < m ∧ (a + j) % m = p := by
  have hm : a % m < m := Nat.mod_lt _ (by omega)
  refine ⟨(p + (m - a % m)) % m, Nat.mod_lt _ (by omega), ?_⟩
  rw [Nat.add_mod_mod]
  have h1 : a + (p + (m - a % m)) = p + m * (a / m + 1) := by
    have := Nat.div_add_mod a m
    rw [Nat.mul_add, Nat.mul_one]
    omega
  rw [h1, Nat.add_mul_mod_self_left, Nat.mod_eq_of_lt hp]

/-- Slots in which the first n keys stand, H being their hashes. -/
structure Slt (m : Nat) (H f : Nat → Nat) (n : Nat) : Prop where
  le : ∀ p, f p ≤ n
  few : cnt f m ≤ n
  has : ∀ i, i < n → ∃ j, j < m ∧ f ((H i + j) % m) = i + 1 ∧ ∀ k, k < j → f ((H i + k) % m) ≠ 0
theorem Slt.zero (m : Nat) (H : Nat → Nat) : Slt m H (fun _ => 0) 0 := ⟨fun _ => Nat.le_refl _, by rw [cnt_zero]; exact Nat.le_refl _, fun i hi => by omega⟩
theorem Slt.free {m n : Nat} {H f : Nat → Nat} (h : Slt m H f n) (hn : n < m) (a : Nat) : ∃ j, j < m ∧ f ((a + j) % m) = 0 ∧ ∀ k, k < j → f ((a + k) % m) ≠ 0 := by
  obtain ⟨p, hp, h0⟩ := cnt_free f m (Nat.lt_of_le_of_lt h.few hn)
  obtain ⟨j, hj, he⟩ := met a hp
  obtain ⟨j', h1, h2, h3⟩ := least (P := fun j => f ((a + j) % m) = 0) j (by rw [he]; exact h0)
  exact ⟨j', by omega, h2, h3⟩
theorem Slt.put {m n : Nat} {H f : Nat → Nat} (h : Slt m H f n) {j : Nat} (hj : j < m) (h0 : f ((H n + j) % m) = 0) (hk : ∀ k, k < j → f ((H n + k) % m) ≠ 0) : Slt m H (setF f ((H n + j) % m) (n + 1)) (n + 1) := by
  refine ⟨fun p => ?_, ?_, fun i hi => ?_⟩
  · by_cases hp : p = (H n + j) % m
    · subst hp; rw [setF_same]; exact Nat.le_refl _
    · rw [setF_other f _ hp]; have := h.le p; omega
  · have := cnt_setF f ((H n + j) % m) (n + 1) m
    have h2 := h.few
    split at this <;> omega
  · by_cases hin : i = n
    · subst hin
      refine ⟨j, hj, setF_same _ _ _, fun k hkj => ?_⟩
      by_cases hp : (H i + k) % m = (H i + j) % m
      · rw [hp, setF_same]; omega
      · rw [setF_other f _ hp]; exact hk k hkj
    · obtain ⟨j', hj', h1, h2⟩ := h.has i (by omega)
      refine ⟨j', hj', ?_, fun k hkj => ?_⟩
      · rw [setF_other f _ (fun e => by rw [e, h0] at h1; omega)]; exact h1
      · by_cases hp : (H i + k) % m = (H n + j) % m
        · rw [hp, setF_same]; omega
        · rw [setF_other f _ hp]; exact h2 k hkj
theorem Slt.ext {m n : Nat} {H H' f : Nat → Nat} (h : Slt m H f n) (e : ∀ i, i < n → H' i = H i) : Slt m H' f n :=
  ⟨h.le, h.few, fun i hi => by rw [e i hi]; exact h.has i hi⟩
theorem Slt.extf {m n : Nat} {H f g : Nat → Nat} (h : Slt m H f n) (hm : 0 < m) (e : ∀ p, p < m → g p = f p) (e2 : ∀ p, m ≤ p → g p ≤ n) : Slt m H g n :=
  ⟨fun p => if hp : p < m then by rw [e p hp]; exact h.le p else e2 p (by omega), by
    have : ∀ k, k ≤ m → cnt g k = cnt f k := fun k => by
      induction k with
      | zero => intro _; rfl
      | succ k ih => intro hk; simp only [cnt]; rw [ih (by omega), e k (by omega)]
    rw [this m (Nat.le_refl _)]; exact h.few, fun i hi => by
    obtain ⟨j, hj, h1, h2⟩ := h.has i hi
    exact ⟨j, hj, by rw [e _ (Nat.mod_lt _ hm)]; exact h1, fun k hk => by rw [e _ (Nat.mod_lt _ hm)]; exact h2 k hk⟩⟩

/-- A number of 64 bits by which a text's slot is found. -/
def hstep (h : Nat) (c : Nat) : Nat := ((h ^^^ c) * 1099511628211) % 18446744073709551616
def hashP (l : List UInt8) : Nat → Nat
  | 0 => 14695981039346656037
  | i + 1 => hstep (hashP l i) (bt l i)
theorem hashP_lt (l : List UInt8) : ∀ i, hashP l i < 18446744073709551616
  | 0 => by show 14695981039346656037 < 18446744073709551616; decide
  | i + 1 => Nat.mod_lt _ (by decide)
def hashN (l : List UInt8) : Nat := hashP l l.length ^^^ (hashP l l.length / 4294967296)
theorem hashN_lt (l : List UInt8) : hashN l < 18446744073709551616 := by
  have := hashP_lt l l.length
  exact Nat.xor_lt_two_pow (n := 64) this (by omega)
/-- The hashes of a list's texts. -/
def hOf (ts : List (List UInt8)) (i : Nat) : Nat := hashN (ts.getD i [])
theorem hOf_snoc (ts : List (List UInt8)) (s : List UInt8) {i : Nat} (h : i < ts.length) : hOf (ts ++ [s]) i = hOf ts i := by
  unfold hOf
  rw [List.getD_eq_getElem?_getD, List.getD_eq_getElem?_getD, List.getElem?_append_left h]
theorem hOf_last (ts : List (List UInt8)) (s : List UInt8) : hOf (ts ++ [s]) ts.length = hashN s := by unfold hOf; simp

/-- Between two rounds of a search: what has been met is taken, by others. -/
def Past (ts : List (List UInt8)) (m : Nat) (f : Nat → Nat) (s : List UInt8) (c : Nat) : Prop := ∀ k, k < c → f ((hashN s + k) % m) ≠ 0 ∧ ts.getD (f ((hashN s + k) % m) - 1) [] ≠ s
theorem Past.none {ts : List (List UInt8)} {m c : Nat} {f : Nat → Nat} {s : List UInt8} (hS : Slt m (hOf ts) f ts.length) (h : Past ts m f s c) (hc : c = m ∨ f ((hashN s + c) % m) = 0) : fnd ts s = -1 := by
  refine fnd_none fun hm => ?_
  have hi := List.idxOf_lt_length_of_mem hm
  obtain ⟨j, hj, h1, h2⟩ := hS.has _ hi
  have he : hOf ts (ts.idxOf s) = hashN s := by unfold hOf; rw [getD_idx hm]
  rw [he] at h1 h2
  have hjc : j < c := by
    rcases hc with rfl | hc
    · exact hj
    · rcases Nat.lt_trichotomy j c with h' | h' | h'
      · exact h'
      · subst h'; rw [hc] at h1; omega
      · exact absurd hc (h2 c h')
  have := (h j hjc).2
  rw [h1, Nat.add_sub_cancel, getD_idx hm] at this
  exact this rfl
theorem Past.some {ts : List (List UInt8)} {m c : Nat} {f : Nat → Nat} {s : List UInt8} (hS : Slt m (hOf ts) f ts.length) (hd : ts.Nodup) {v : Nat} (h0 : f ((hashN s + c) % m) = v + 1) (he : ts.getD v [] = s) : v < ts.length ∧ fnd ts s = v := by
  have := hS.le ((hashN s + c) % m)
  exact ⟨by omega, fnd_at hd (by omega) he⟩
theorem Past.next {ts : List (List UInt8)} {m c : Nat} {f : Nat → Nat} {s : List UInt8} (h : Past ts m f s c) {v : Nat} (h0 : f ((hashN s + c) % m) = v + 1) (he : ts.getD v [] ≠ s) : Past ts m f s (c + 1) := fun k hk => by
  by_cases e : k = c
  · subst e; rw [h0, Nat.add_sub_cancel]; exact ⟨by omega, he⟩
  · exact h k (by omega)
theorem Past.zero (ts : List (List UInt8)) (m : Nat) (f : Nat → Nat) (s : List UInt8) : Past ts m f s 0 := fun k hk => by omega

/-- The slots from one on, in the order in which they are gone through. -/
def prb (a m c : Nat) : List Nat := (List.range c).map fun j => (a + j) % m
theorem prb_len (a m c : Nat) : (prb a m c).length = c := by simp [prb]
theorem prb_succ (a m c : Nat) : prb a m (c + 1) = prb a m c ++ [(a + c) % m] := by simp [prb, List.range_succ]
theorem prb_next {a m c : Nat} {pre : List Nat} {x : Nat} (h : pre ++ [x] = prb a m c) : pre = prb a m pre.length ∧ x = (a + pre.length) % m ∧ pre.length + 1 = c := by
  have hl := congrArg List.length h
  rw [prb_len, List.length_append, List.length_singleton] at hl
  rw [← hl, prb_succ] at h
  obtain ⟨h1, h2⟩ := List.append_inj' h rfl
  exact ⟨h1, by simpa using h2, hl⟩
/-- The lowest bits of a sum that wraps. -/
theorem ring (x : Int) (a k : Nat) (hk : k ≤ 62) (hx : x % 18446744073709551616 = (a : Int) % 18446744073709551616) : bits .and .i64 x (2 ^ k - 1) = ((a % 2 ^ k : Nat) : Int) := by
  have hp : 0 < 2 ^ k := Nat.two_pow_pos k
  have hp2 : 2 ^ k ≤ 2 ^ 62 := Nat.pow_le_pow_right (by decide) hk
  have hc : ((2 : Int) ^ k - 1) = ((2 ^ k - 1 : Nat) : Int) := by rw [Int.natCast_sub hp]; simp
  have hd : 2 ^ k ∣ 18446744073709551616 := Nat.pow_dvd_pow (n := 64) 2 (by omega)
  have h1 : (BitVec.ofInt 64 x).toNat = a % 18446744073709551616 := by
    rw [BitVec.toNat_ofInt]
    show (x % 18446744073709551616).toNat = _
    rw [hx]; omega
  have h2 : (2 ^ k - 1) % 18446744073709551616 = 2 ^ k - 1 := Nat.mod_eq_of_lt (by omega)
  have h3 : (a % 18446744073709551616) &&& (2 ^ k - 1) = a % 2 ^ k := by
    rw [Nat.and_two_pow_sub_one_eq_mod, Nat.mod_mod_of_dvd _ hd]
  have h4 : a % 2 ^ k < 2 ^ k := Nat.mod_lt _ hp
  have e : bits .and .i64 x ((2 ^ k - 1 : Nat) : Int) = IntKind.i64.wrap (((BitVec.ofInt 64 x &&& BitVec.ofInt 64 ((2 ^ k - 1 : Nat) : Int)).toNat : Nat) : Int) := rfl
  rw [hc, e, BitVec.toNat_and, h1, BitVec.ofInt_natCast, BitVec.toNat_ofNat, show (2 ^ k - 1) % 2 ^ 64 = 2 ^ k - 1 from h2, h3, IntKind.wrap_i64]
  omega
theorem xor64 (a b : Nat) (ha : a < 18446744073709551616) (hb : b < 18446744073709551616) : bits .xor .u64 (a : Int) (b : Int) = ((a ^^^ b : Nat) : Int) := by
  have e : bits .xor .u64 (a : Int) (b : Int) = IntKind.u64.wrap (((BitVec.ofInt 64 (a : Int) ^^^ BitVec.ofInt 64 (b : Int)).toNat : Nat) : Int) := rfl
  have h := Nat.xor_lt_two_pow (n := 64) ha hb
  rw [e, BitVec.toNat_xor, BitVec.ofInt_natCast, BitVec.ofInt_natCast, BitVec.toNat_ofNat, BitVec.toNat_ofNat, Nat.mod_eq_of_lt (show a < 2 ^ 64 from ha), Nat.mod_eq_of_lt (show b < 2 ^ 64 from hb), IntKind.wrap_u64]
  omega

end Go.Proofs.Ytbpegpgbdemomaa
