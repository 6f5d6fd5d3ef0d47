/-
  gram, plainly: keys of n-grams.
-/
import Derived.Test.YteiegedffjkbeaaGraMath
namespace Go.Proofs.Yteiegedffjkbeaa
open Go.RowKit

/-- A number's three bytes. -/
def kb (w : Int) : List UInt8 := [UInt8.ofNat (w.toNat / 65536), UInt8.ofNat (w.toNat / 256), UInt8.ofNat w.toNat]
/-- An n-gram's key. -/
def keyL (g : List Int) : List UInt8 := g.flatMap kb
/-- It has a key. -/
def okG (g : List Int) : Bool := g.all fun w => decide (0 ≤ w ∧ w < 16777216)
/-- The n-gram of a key. -/
def prs : List UInt8 → List Int
  | x :: y :: z :: r => ((x.toNat * 65536 + y.toNat * 256 + z.toNat : Nat) : Int) :: prs r
  | _ => []
theorem keyL_cons (w : Int) (g : List Int) : keyL (w :: g) = UInt8.ofNat (w.toNat / 65536) :: UInt8.ofNat (w.toNat / 256) :: UInt8.ofNat w.toNat :: keyL g := rfl
theorem keyL_len (g : List Int) : (keyL g).length = 3 * g.length := by
  induction g with
  | nil => rfl
  | cons w g ih => rw [keyL_cons]; simp only [List.length_cons, ih]; omega
theorem keyL_take {g : List Int} {r : Nat} (h : r < g.length) : keyL (g.take (r + 1)) = keyL (g.take r) ++ kb (g.getD r 0) := by
  rw [List.take_succ_eq_append_getElem h]
  unfold keyL
  rw [List.flatMap_append]
  simp [List.getD, h]
theorem okG_cons (w : Int) (g : List Int) : okG (w :: g) = true ↔ (0 ≤ w ∧ w < 16777216) ∧ okG g = true := by
  simp [okG]
theorem okG_at {g : List Int} (h : okG g = true) {i : Nat} (hi : i < g.length) : 0 ≤ g.getD i 0 ∧ g.getD i 0 < 16777216 := by
  unfold okG at h
  rw [List.all_eq_true] at h
  have := h g[i] (List.getElem_mem hi)
  simpa [List.getD, hi] using this
theorem okG_not {g : List Int} {i : Nat} (hi : i < g.length) (h : ¬ (0 ≤ g.getD i 0 ∧ g.getD i 0 < 16777216)) : okG g = false := by
  cases e : okG g with
  | false => rfl
  | true => exact absurd (okG_at e hi) h
theorem okG_all {g : List Int} (h : ∀ i, i < g.length → 0 ≤ g.getD i 0 ∧ g.getD i 0 < 16777216) : okG g = true := by
  unfold okG
  rw [List.all_eq_true]
  intro x hx
  obtain ⟨i, hi, rfl⟩ := List.getElem_of_mem hx
  have := h i hi
  simpa [List.getD, hi] using this
theorem kb_toNat {w : Int} (h : 0 ≤ w ∧ w < 16777216) : (UInt8.ofNat (w.toNat / 65536)).toNat * 65536 + (UInt8.ofNat (w.toNat / 256)).toNat * 256 + (UInt8.ofNat w.toNat).toNat = w.toNat := by
  simp only [UInt8.toNat_ofNat']
  omega
theorem prs_key : ∀ (g : List Int), okG g = true → prs (keyL g) = g
  | [], _ => rfl
  | w :: g, h => by
    obtain ⟨h1, h2⟩ := (okG_cons w g).1 h
    rw [keyL_cons, prs, prs_key g h2, kb_toNat h1]
    congr 1
    omega
theorem key_prs : ∀ (n : Nat) (s : List UInt8), s.length = 3 * n → keyL (prs s) = s ∧ okG (prs s) = true ∧ (prs s).length = n
  | 0, s, h => by
    obtain rfl : s = [] := List.eq_nil_of_length_eq_zero (by omega)
    exact ⟨rfl, rfl, rfl⟩
  | n + 1, s, h => by
    match s, h with
    | x :: y :: z :: r, h =>
      obtain ⟨h1, h2, h3⟩ := key_prs n r (by simp at h; omega)
      have hx := UInt8.toNat_lt x
      have hy := UInt8.toNat_lt y
      have hz := UInt8.toNat_lt z
      refine ⟨?_, ?_, ?_⟩
      · rw [prs, keyL_cons, h1]
        have e : ∀ (v : Nat) (u : UInt8), v % 256 = u.toNat → UInt8.ofNat v = u := fun v u hv => by
          apply UInt8.toNat.inj
          rw [UInt8.toNat_ofNat']
          exact hv
        rw [e _ x (by omega), e _ y (by omega), e _ z (by omega)]
      · rw [prs, okG_cons]
        exact ⟨by omega, h2⟩
      · rw [prs, List.length_cons, h3]
theorem key_less : ∀ (a b : List Int), a.length = b.length → okG a = true → okG b = true → Op.bytesLess (keyL a) (keyL b) = decide (cmpL a b < 0)
  | [], [], _, _, _ => rfl
  | [], _ :: _, h, _, _ => by simp at h
  | _ :: _, [], h, _, _ => by simp at h
  | u :: a, v :: b, h, ha, hb => by
    obtain ⟨a1, a2⟩ := (okG_cons u a).1 ha
    obtain ⟨b1, b2⟩ := (okG_cons v b).1 hb
    have ih := key_less a b (by simpa using h) a2 b2
    rw [keyL_cons, keyL_cons, cmpL]
    simp only [Op.bytesLess, ih]
    have l1 : ∀ x y : UInt8, decide (x < y) = decide (x.toNat < y.toNat) := fun x y => by rw [decide_eq_decide]; exact UInt8.lt_iff_toNat_lt
    have l2 : ∀ x y : UInt8, (x == y) = decide (x.toNat = y.toNat) := fun x y => by
      by_cases e : x = y
      · subst e; simp
      · rw [decide_eq_false fun e' => e (UInt8.toNat.inj e')]
        simpa using e
    rw [l1, l1, l1, l2, l2, l2]
    simp only [UInt8.toNat_ofNat']
    generalize cmpL a b = c
    obtain ⟨m, rfl⟩ : ∃ m : Nat, u = m := ⟨u.toNat, by omega⟩
    obtain ⟨n, rfl⟩ : ∃ n : Nat, v = n := ⟨v.toNat, by omega⟩
    simp only [Int.toNat_natCast]
    by_cases h1 : m < n
    · rw [if_pos (by omega)]
      simp
      omega
    · rw [if_neg (by omega)]
      by_cases h2 : n < m
      · rw [if_pos (by omega)]
        simp
        omega
      · obtain rfl : m = n := by omega
        rw [if_neg (by omega)]
        simp
theorem key_same {a b : List Int} (ha : okG a = true) (hb : okG b = true) : keyL a = keyL b ↔ cmpL a b = 0 := by
  rw [cmpL_zero]
  constructor
  · intro h
    rw [← prs_key a ha, h, prs_key b hb]
  · rintro rfl; rfl

/-- A number of an n-gram behind i bytes. -/
def pv (s : List UInt8) (i j : Nat) : Nat :=
  if i ≤ 3 * j then 0 else if i = 3 * j + 1 then bt s (3 * j) else if i = 3 * j + 2 then bt s (3 * j) * 256 + bt s (3 * j + 1) else bt s (3 * j) * 65536 + bt s (3 * j + 1) * 256 + bt s (3 * j + 2)
theorem pv_other (s : List UInt8) {i j : Nat} (h : j ≠ i / 3) : pv s (i + 1) j = pv s i j := by
  unfold pv
  by_cases h1 : i ≤ 3 * j
  · rw [if_pos (by omega), if_pos h1]
  · rw [if_neg (by omega), if_neg h1, if_neg (by omega), if_neg (by omega), if_neg (by omega), if_neg (by omega)]
theorem pv_lt (s : List UInt8) (i : Nat) : pv s i (i / 3) < 65536 := by
  have h1 := bt_lt s (3 * (i / 3))
  have h2 := bt_lt s (3 * (i / 3) + 1)
  unfold pv
  split
  · omega
  · split
    · omega
    · split
      · omega
      · omega
theorem pv_next (s : List UInt8) (i : Nat) : pv s (i + 1) (i / 3) = pv s i (i / 3) * 256 + bt s i := by
  unfold pv
  rcases (show i = 3 * (i / 3) ∨ i = 3 * (i / 3) + 1 ∨ i = 3 * (i / 3) + 2 by omega) with h | h | h
  · rw [if_neg (by omega), if_pos (by omega), if_pos (by omega), ← h]; omega
  · rw [if_neg (by omega), if_neg (by omega), if_pos (by omega), if_neg (by omega), if_pos (by omega), ← h]
  · rw [if_neg (by omega), if_neg (by omega), if_neg (by omega), if_neg (by omega), if_neg (by omega), if_pos (by omega), ← h]; omega
theorem pv_zero (s : List UInt8) (j : Nat) : pv s 0 j = 0 := by unfold pv; rw [if_pos (by omega)]
theorem prs_get : ∀ (n : Nat) (s : List UInt8), s.length = 3 * n → ∀ j, j < n → (prs s).getD j 0 = (pv s (3 * n) j : Nat)
  | 0, _, _, j, hj => by omega
  | n + 1, s, h, j, hj => by
    match s, h with
    | x :: y :: z :: r, h =>
      rw [prs]
      cases j with
      | zero =>
        unfold pv
        rw [if_neg (by omega), if_neg (by omega), if_neg (by omega)]
        simp [bt]
      | succ j =>
        have ih := prs_get n r (by simp at h; omega) j (by omega)
        simp only [List.getD_cons_succ]
        rw [ih]
        unfold pv
        rw [if_neg (by omega), if_neg (by omega), if_neg (by omega), if_neg (by omega), if_neg (by omega), if_neg (by omega)]
        have e : ∀ k, bt (x :: y :: z :: r) (k + 3) = bt r k := fun k => by simp [bt]
        rw [show 3 * (j + 1) = 3 * j + 3 by omega, e, show 3 * j + 3 + 1 = (3 * j + 1) + 3 by omega, e, show 3 * j + 3 + 2 = (3 * j + 2) + 3 by omega, e]
theorem prs_is {n : Nat} {s : List UInt8} (h : s.length = 3 * n) : (List.range n).map (fun j => ((pv s (3 * n) j : Nat) : Int)) = prs s := by
  apply List.ext_getElem
  · rw [(key_prs n s h).2.2]; simp
  · intro j h1 h2
    have hj : j < n := by simpa using h1
    have := prs_get n s h j hj
    simp [List.getD, h2] at this
    simp [this]
end Go.Proofs.Yteiegedffjkbeaa
