/-
  Numbers that do not fall, cut into parts: kinds, sizes, and how many are below another one, plainly.
-/
import Derived.Test.YtheieibkbeckkaaEliasRefB
namespace Go.Proofs.Ytheieibkbeckkaa
open Go.RowKit

/-- How many parts n numbers have, and how many numbers the part k has. -/
def prts (n : Nat) : Nat := (n + 31) / 32
def prtn (n k : Nat) : Nat := min 32 (n - 32 * k)
/-- The numbers of the part k; the first numbers of the parts; differences to the first one. -/
def prt (f : Nat → Nat) (k j : Nat) : Nat := f (32 * k + j)
def frs (f : Nat → Nat) (k : Nat) : Nat := f (32 * k)
def dif (g : Nat → Nat) (j : Nat) : Nat := g j - g 0
/-- Each number is by d more than the one ahead. -/
def Stdy (g : Nat → Nat) (d m : Nat) : Prop := ∀ j, j + 1 < m → g (j + 1) = g j + d
def IsRun (g : Nat → Nat) (m : Nat) : Prop := ∀ j, j < m → g j = g 0 + j
def IsSame (g : Nat → Nat) (m : Nat) : Prop := ∀ j, j < m → g j = g 0
/-- A part's kind. -/
def kind (g : Nat → Nat) (m : Nat) : Nat := if ∀ j, j < m → g j = g 0 + j then 0 else if ∀ j, j < m → g j = g 0 then 1 else 2

theorem kind_run {g : Nat → Nat} {m : Nat} (h : IsRun g m) : kind g m = 0 := by
  have h' : ∀ j, j < m → g j = g 0 + j := h
  unfold kind; rw [if_pos h']
theorem kind_same {g : Nat → Nat} {m : Nat} (h : ¬ IsRun g m) (h1 : IsSame g m) : kind g m = 1 := by
  have h' : ¬ ∀ j, j < m → g j = g 0 + j := h
  have h1' : ∀ j, j < m → g j = g 0 := h1
  unfold kind; rw [if_neg h', if_pos h1']
theorem kind_other {g : Nat → Nat} {m : Nat} (h : ¬ IsRun g m) (h1 : ¬ IsSame g m) : kind g m = 2 := by
  have h' : ¬ ∀ j, j < m → g j = g 0 + j := h
  have h1' : ¬ ∀ j, j < m → g j = g 0 := h1
  unfold kind; rw [if_neg h', if_neg h1']
theorem kind_cases (g : Nat → Nat) (m : Nat) : (kind g m = 0 ∧ IsRun g m) ∨ (kind g m = 1 ∧ IsSame g m) ∨ kind g m = 2 := by
  by_cases h : IsRun g m
  · exact .inl ⟨kind_run h, h⟩
  · by_cases h1 : IsSame g m
    · exact .inr (.inl ⟨kind_same h h1, h1⟩)
    · exact .inr (.inr (kind_other h h1))

theorem stdy_run (g : Nat → Nat) (m : Nat) : Stdy g 1 m ↔ IsRun g m := by
  constructor
  · intro h j
    induction j with
    | zero => intro _; rfl
    | succ j ih => intro hj; have := h j hj; have := ih (by omega); omega
  · intro h j hj
    have := h j (by omega); have := h (j + 1) hj; omega
theorem stdy_same (g : Nat → Nat) (m : Nat) : Stdy g 0 m ↔ IsSame g m := by
  constructor
  · intro h j
    induction j with
    | zero => intro _; rfl
    | succ j ih => intro hj; have := h j hj; have := ih (by omega); omega
  · intro h j hj
    have := h j (by omega); have := h (j + 1) hj; omega

theorem prts_le (n : Nat) : n ≤ 32 * prts n := by unfold prts; omega
theorem prts_lt {n k : Nat} (h : k < prts n) : 32 * k < n := by unfold prts at h; omega
theorem prtn_pos {n k : Nat} (h : k < prts n) : 1 ≤ prtn n k := by have := prts_lt h; unfold prtn; omega
theorem prtn_le (n k : Nat) : prtn n k ≤ 32 := by unfold prtn; omega
theorem prt_in {n k j : Nat} (h : j < prtn n k) : 32 * k + j < n := by unfold prtn at h; omega

theorem prt_climbs {f : Nat → Nat} {n : Nat} (h : Climbs f n) (k : Nat) : Climbs (prt f k) (prtn n k) :=
  ⟨fun _ hj => h.top _ (prt_in hj), fun j hj => h.up (32 * k + j) (prt_in hj)⟩
theorem frs_climbs {f : Nat → Nat} {n : Nat} (h : Climbs f n) : Climbs (frs f) (prts n) :=
  ⟨fun _ hj => h.top _ (prts_lt hj), fun _ hj => h.mono (by omega) (prts_lt hj)⟩
theorem dif_climbs {g : Nat → Nat} {m : Nat} (h : Climbs g m) : Climbs (dif g) m :=
  ⟨fun j hj => by have := h.top j hj; unfold dif; omega, fun j hj => by have := h.up j hj; unfold dif; omega⟩

/-- By how much the number j of a part is above its first one, as its kind has it. -/
def pat (g : Nat → Nat) (m j : Nat) : Nat := if kind g m = 0 then j else if kind g m = 1 then 0 else dif g j
theorem pat_is {g : Nat → Nat} {m : Nat} (h : Climbs g m) {j : Nat} (hj : j < m) : g 0 + pat g m j = g j := by
  unfold pat
  rcases kind_cases g m with ⟨hk, h1⟩ | ⟨hk, h1⟩ | hk
  · rw [if_pos hk]; exact (h1 j hj).symm
  · rw [if_neg (by omega), if_pos hk]; exact (h1 j hj).symm
  · rw [if_neg (by omega), if_neg (by omega)]; have := h.mono (Nat.zero_le j) hj; unfold dif; omega
theorem at_parts {f : Nat → Nat} {n i : Nat} (h : Climbs f n) (hi : i < n) : frs f (i / 32) + pat (prt f (i / 32)) (prtn n (i / 32)) (i % 32) = f i := by
  have := pat_is (prt_climbs h (i / 32)) (j := i % 32) (by unfold prtn; omega)
  have h1 : prt f (i / 32) 0 = frs f (i / 32) := rfl
  have h2 : prt f (i / 32) (i % 32) = f i := by unfold prt; congr 1; omega
  omega

theorem belI_of {f : Nat → Nat} {n : Nat} (h : Climbs f n) (v : Int) (c : Nat) (hc : c ≤ n) (h1 : ∀ j, j < c → (f j : Int) < v) (h2 : ∀ j, c ≤ j → j < n → v ≤ (f j : Int)) : belI f v n = c :=
  bel_of f (nearV v) n c hc (fun j hj => (nearV_lt (h.top j (by omega)) v).2 (h1 j hj)) (fun j a b => by
    rcases Nat.lt_or_ge (f j) (nearV v) with hlt | hge
    · have := (nearV_lt (h.top j b) v).1 hlt; have := h2 j a b; omega
    · exact hge)

/-- How many numbers of a part are by less than d above its first one, as its kind has it. -/
def pbel (g : Nat → Nat) (m : Nat) (d : Int) : Int := if kind g m = 0 then d else if kind g m = 1 then 32 else if belI (dif g) d m < m then (belI (dif g) d m : Nat) else 32
theorem pbel_lt {g : Nat → Nat} {m : Nat} (h : Climbs g m) (hm : m ≤ 32) (v : Int) (h0 : (g 0 : Int) < v) {j : Nat} (hj : j < m) : (j : Int) < min 32 (pbel g m (v - g 0)) ↔ (g j : Int) < v := by
  unfold pbel
  rcases kind_cases g m with ⟨hk, h1⟩ | ⟨hk, h1⟩ | hk
  · rw [if_pos hk]; have := h1 j hj; omega
  · rw [if_neg (by omega), if_pos hk]; have := h1 j hj; omega
  · rw [if_neg (by omega), if_neg (by omega)]
    have hd := dif_climbs h
    have hmono := h.mono (Nat.zero_le j) hj
    have e : (dif g j : Int) = (g j : Int) - g 0 := by unfold dif; omega
    constructor
    · intro hlt
      rcases Nat.lt_or_ge j (belI (dif g) (v - g 0) m) with a | a
      · have := belI_lt hd _ a; omega
      · rw [if_pos (by omega)] at hlt; omega
    · intro hlt
      rcases Nat.lt_or_ge j (belI (dif g) (v - g 0) m) with a | a
      · split <;> omega
      · have := belI_ge hd _ a hj; omega
theorem pbel_pos (g : Nat → Nat) (m : Nat) (d : Int) (hd : 0 < d) : 0 ≤ pbel g m d := by
  unfold pbel; split
  · omega
  · split
    · omega
    · split <;> omega

/-- How many numbers are below another one, by the parts. -/
theorem below_none {f : Nat → Nat} {n : Nat} (h : Climbs f n) (v : Int) (h0 : belI (frs f) v (prts n) = 0) : belI f v n = 0 := by
  refine belI_of h v 0 (Nat.zero_le _) (fun j hj => by omega) fun j _ hj => ?_
  have h1 := belI_ge (frs_climbs h) v (j := 0) (by omega) (by unfold prts; omega)
  have := h.mono (Nat.zero_le j) hj
  have e : frs f 0 = f 0 := rfl
  omega
theorem below_some {f : Nat → Nat} {n : Nat} (h : Climbs f n) (v : Int) (k B : Nat) (hk : belI (frs f) v (prts n) = k + 1) (hB : (B : Int) = 32 * k + min 32 (pbel (prt f k) (prtn n k) (v - frs f k))) : belI f v n = min B n := by
  have hle := belI_le (frs f) v (prts n)
  have hF := frs_climbs h
  have hkn := prts_lt (n := n) (k := k) (by omega)
  have hf : (frs f k : Int) < v := belI_lt hF v (by omega)
  have e0 : prt f k 0 = frs f k := rfl
  have hP := fun j (hj : j < prtn n k) => pbel_lt (prt_climbs h k) (prtn_le n k) v (by rw [e0]; exact hf) hj
  rw [e0] at hP
  have hp0 := pbel_pos (prt f k) (prtn n k) (v - frs f k) (by omega)
  refine belI_of h v _ (Nat.min_le_right _ _) (fun j hj => ?_) fun j a b => ?_
  · rcases Nat.lt_or_ge j (32 * k) with hlt | hge
    · have := h.mono (Nat.le_of_lt hlt) hkn; have e : frs f k = f (32 * k) := rfl; omega
    · have := (hP (j - 32 * k) (by unfold prtn; omega)).1 (by omega)
      have e : prt f k (j - 32 * k) = f j := by unfold prt; congr 1; omega
      omega
  · rcases Nat.lt_or_ge j (32 * k + 32) with hlt | hge
    · rcases Int.lt_or_le (f j : Int) v with hv | hv
      · have e : prt f k (j - 32 * k) = f j := by unfold prt; congr 1; omega
        have := (hP (j - 32 * k) (by unfold prtn; omega)).2 (by rw [e]; exact hv)
        omega
      · exact hv
    · have := belI_ge hF v (j := k + 1) (by omega) (by unfold prts; omega)
      have := h.mono (i := 32 * (k + 1)) (by omega) b
      have e : frs f (k + 1) = f (32 * (k + 1)) := rfl
      omega

/-- How many of the first k parts have the kind t; how many bits they take. -/
def kcnt (f : Nat → Nat) (n t : Nat) : Nat → Nat
  | 0 => 0
  | k + 1 => kcnt f n t k + if kind (prt f k) (prtn n k) = t then 1 else 0
theorem kcnt_le (f : Nat → Nat) (n t k : Nat) : kcnt f n t k ≤ k := by
  induction k with
  | zero => exact Nat.le_refl _
  | succ k ih => rw [kcnt]; split <;> omega
def psz (g : Nat → Nat) (m : Nat) : Nat := if kind g m = 2 then sizeN (dif g) (wdt (dif g) m) m else 0
def tot (f : Nat → Nat) (n : Nat) : Nat → Nat
  | 0 => 0
  | k + 1 => tot f n k + psz (prt f k) (prtn n k)
theorem size_bound {f : Nat → Nat} {n : Nat} (h : Climbs f n) : sizeN f (wdt f n) n ≤ 43 * n := by
  have h1 := wdt_le h
  have h2 := hN_bound h
  have h3 : n * wdt f n ≤ n * 40 := Nat.mul_le_mul_left n h1
  unfold sizeN; omega
theorem psz_le {g : Nat → Nat} {m : Nat} (h : Climbs g m) (hm : m ≤ 32) : psz g m ≤ 1376 := by
  unfold psz
  split
  · have := size_bound (dif_climbs h); omega
  · omega
theorem tot_le {f : Nat → Nat} {n : Nat} (h : Climbs f n) (k : Nat) : tot f n k ≤ 1376 * k := by
  induction k with
  | zero => exact Nat.le_refl _
  | succ k ih => rw [tot]; have := psz_le (prt_climbs h k) (prtn_le n k); omega
def shSize (f : Nat → Nat) (n : Nat) : Nat := sizeN (frs f) (wdt (frs f) (prts n)) (prts n) + tot f n (prts n)

end Go.Proofs.Ytheieibkbeckkaa
