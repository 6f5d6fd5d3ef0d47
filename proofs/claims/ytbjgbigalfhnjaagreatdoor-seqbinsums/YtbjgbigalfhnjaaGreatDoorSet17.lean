/-
  elias: how many numbers are below another one; Next, Ahead, Find, Size; of nil too.
  elias: Next, Ahead, Find, Size; of nil too.
  The document's answers for elias: Wrong, At, Next, Ahead, Find, Low, Size.
-/
import Derived.Test.YtbjgbigalfhnjaaGreatDoorSet16
namespace Go.Proofs.YtbjgbigalfhnjaaGreatDoor
open Go.RowKit

theorem bel_nought (g : Nat → Nat) (n : Nat) : bel g 0 n = 0 := by
  induction n with
  | zero => rfl
  | succ n ih => rw [bel, ih]; simp

/-- What is found among the numbers with the same part above the low bits. -/
theorem find_is {f : Nat → Nat} {n : Nat} (h : Climbs f n) (w v : Nat) :
    bel (fun i => f i / 2 ^ w) (v / 2 ^ w) n ≤ bel f v n ∧ bel f v n ≤ bel (fun i => f i / 2 ^ w) (v / 2 ^ w + 1) n ∧
    IsFind (fun i => f i % 2 ^ w) n (bel (fun i => f i / 2 ^ w) (v / 2 ^ w) n : Nat) (bel (fun i => f i / 2 ^ w) (v / 2 ^ w + 1) n : Nat) (v % 2 ^ w) (if bel f v n < bel (fun i => f i / 2 ^ w) (v / 2 ^ w + 1) n then (bel f v n : Nat) else -1) := by
  obtain ⟨p1, p2⟩ := bel_parts (hi_mono h w) (v / 2 ^ w)
  obtain ⟨p3, p4⟩ := bel_parts (hi_mono h w) (v / 2 ^ w + 1)
  obtain ⟨q1, q2⟩ := bel_parts h.ups v
  have l1 := bel_le (fun i => f i / 2 ^ w) (v / 2 ^ w) n
  have l2 := bel_le (fun i => f i / 2 ^ w) (v / 2 ^ w + 1) n
  have l3 := bel_le f v n
  generalize bel (fun i => f i / 2 ^ w) (v / 2 ^ w) n = lo at *
  generalize bel (fun i => f i / 2 ^ w) (v / 2 ^ w + 1) n = hi at *
  generalize bel f v n = B at *
  try simp only at p1 p2 p3 p4
  have a1 : lo ≤ B := by
    rcases Nat.lt_or_ge B lo with hlt | hge
    · have x1 := p1 B hlt
      have x2 := q2 B (Nat.le_refl _) (by omega)
      have x3 := (split_lt (f B) v w).2 (.inl x1)
      omega
    · exact hge
  have a2 : B ≤ hi := by
    rcases Nat.lt_or_ge hi B with hlt | hge
    · have x1 := p4 hi (Nat.le_refl _) (by omega)
      have x2 := q1 hi hlt
      rw [split_lt (f hi) v w] at x2
      omega
    · exact hge
  have key : ∀ j, lo ≤ j → j < hi → (f j < v ↔ f j % 2 ^ w < v % 2 ^ w) := fun j b1 b2 => by
    have x1 := p2 j b1 (by omega)
    have x2 := p3 j b2
    rw [split_lt (f j) v w]
    omega
  refine ⟨a1, a2, ?_⟩
  by_cases hB : B < hi
  · rw [if_pos hB]
    refine .inr ⟨B, rfl, by omega, by omega, by omega, ?_, fun j b1 b2 => (key j (by omega) (by omega)).1 (q1 j b1)⟩
    have x1 := q2 B (Nat.le_refl _) (by omega)
    have x2 := key B a1 hB
    simp only
    omega
  · rw [if_neg hB]
    exact .inl ⟨rfl, fun j b1 b2 b3 => (key j (by omega) (by omega)).1 (q1 j (by omega))⟩

theorem IsFind.congr' {f g : Nat → Nat} {K : Nat} {lo hi : Int} {v : Nat} {r : Int} (h : IsFind f K lo hi v r) (he : ∀ j, j < K → f j = g j) : IsFind g K lo hi v r := by
  rcases h with ⟨rfl, h⟩ | ⟨i, rfl, h1, h2, h3, h4, h5⟩
  · exact .inl ⟨rfl, fun i a b c => by rw [← he i a]; exact h i a b c⟩
  · exact .inr ⟨i, rfl, h1, h2, h3, by rw [← he i h1]; exact h4, fun j a b => by rw [← he j (by omega)]; exact h5 j a b⟩
theorem Rising.congr' {f g : Nat → Nat} {K : Nat} {lo hi : Int} (h : Rising f K lo hi) (he : ∀ j, j < K → f j = g j) : Rising g K lo hi :=
  fun i a b c d => by rw [← he (i - 1) (by omega), ← he i b]; exact h i a b c d

end Go.Proofs.YtbjgbigalfhnjaaGreatDoor

namespace Go.Proofs.YtbjgbigalfhnjaaGreatDoor
open Go.RowKit

end Go.Proofs.YtbjgbigalfhnjaaGreatDoor

namespace Go.Proofs.YtbjgbigalfhnjaaGreatDoor
open Go.RowKit

theorem wrg_8 (g : Nat → Int) (k K : Nat) (hk : k < K) (h0 : wrg g k = 0) (h : g k < 0 ∨ 1099511627776 < g k) : wrg g K = 8 := by
  have e : wrg g (k + 1) = 8 := by rw [wrg, if_neg (by omega), if_pos h]
  rw [wrg_keeps g (k := k + 1) hk (by omega), e]
theorem wrg_9 (g : Nat → Int) (k K : Nat) (hk : k + 1 < K) (h0 : wrg g (k + 1) = 0) (h : ¬ (g (k + 1) < 0 ∨ 1099511627776 < g (k + 1))) (h1 : g (k + 1) < g k) : wrg g K = 9 := by
  have e : wrg g (k + 1 + 1) = 9 := by rw [wrg, if_neg (by omega), if_neg h, if_pos ⟨by omega, by simpa using h1⟩]
  rw [wrg_keeps g (k := k + 1 + 1) hk (by omega), e]
theorem wrg_next (g : Nat → Int) (k : Nat) (h0 : wrg g (k + 1) = 0) (h : ¬ (g (k + 1) < 0 ∨ 1099511627776 < g (k + 1))) (h1 : ¬ g (k + 1) < g k) : wrg g (k + 1 + 1) = 0 := by
  rw [wrg, if_neg (by omega), if_neg h, if_neg]; simpa using h1
theorem wrg_one (g : Nat → Int) (h : ¬ (g 0 < 0 ∨ 1099511627776 < g 0)) : wrg g 1 = 0 := by
  rw [wrg, if_neg (by simp [wrg]), if_neg h, if_neg (by omega)]

set_option maxHeartbeats 800000 in
set_option maxRecDepth 1000000 in
theorem ref_wrong (v : Value) (K : Nat) (g : Nat → Int) (w : World) (h : ZRd w v K g) (hK : K ≤ 1000000) :
    Calls Tryz.prog 38 #[v] w fun e w' => e = .returned (.int .i64 (wrg g K)) ∧ ∃ m, w' = w.drewN m := by
  obtain ⟨ao, cap, rfl⟩ := h.shape
  have HH := Hid.mk h
  clear h
  go_enter Tryz.func38, Tryz.ntmps38
  go_wp2
  go_loopw [3] (fun i wr => ∃ k : Nat, k ≤ K ∧ i = .int .i64 k ∧ Hid (wrg g k = 0 ∧ ∃ m, wr = w.drewN m)) (fun i _ => K - (intOf i).toNat)
  case atStart => exact ⟨0, Nat.zero_le _, rfl, Hid.mk ⟨rfl, 0, rfl⟩⟩
  case round =>
    obtain ⟨k, hk, rfl, HR⟩ := hrel
    have hmore : Hid (More w wr) := Hid.mk (by obtain ⟨m, hm⟩ := HR.out.2; rw [hm]; exact More.drewN w m)
    by_cases hkK : k < K
    · obtain ⟨b, o, rfl, hc⟩ := HH.out.cell (w' := wr) k hkK
      have hck := hc hmore.out
      clear hc
      obtain ⟨x, hx⟩ : ∃ x, g k = x := ⟨_, rfl⟩
      rw [hx] at hck
      have HX := Hid.mk hx
      clear hx
      by_cases h1 : x < 0 ∨ 1099511627776 < x
      · have he : Hid (wrg g K = 8) := Hid.mk (wrg_8 g k K hkK HR.out.1 (by rw [HX.out]; exact h1))
        rcases (show x < 0 ∨ (¬ x < 0 ∧ 1099511627776 < x) by omega) with h2 | ⟨h2, h3⟩
        all_goals
          clear h1
          go_wp2
          go_ret
          exact ⟨by rw [he.out]; rfl, HR.out.2⟩
      · have H1 := Hid.mk h1
        have hx0 : ¬ x < 0 := by omega
        have hx1 : ¬ 1099511627776 < x := by omega
        clear h1
        cases k with
        | zero =>
          rw [Nat.add_zero] at hck
          go_wp2
          go_quiet (fail)
          go_wp2
          obtain ⟨m, hm⟩ := HR.out.2
          exact ⟨⟨1, by omega, by go_num, Hid.mk ⟨wrg_one g (by rw [HX.out]; exact H1.out), m + nq, by rw [hm]; simp⟩⟩, by simp [intOf]; omega⟩
        | succ j =>
          obtain ⟨b', o', he, hc⟩ := HH.out.cell (w' := wr) j (by omega)
          simp at he
          obtain ⟨rfl, rfl⟩ := he
          have hcj := hc hmore.out
          clear hc
          obtain ⟨y, hy⟩ : ∃ y, g j = y := ⟨_, rfl⟩
          rw [hy] at hcj
          have HY := Hid.mk hy
          clear hy
          by_cases h4 : x < y
          · have he : Hid (wrg g K = 9) := Hid.mk (wrg_9 g j K hkK HR.out.1 (by rw [HX.out]; exact H1.out) (by rw [HX.out, HY.out]; exact h4))
            go_wp2
            go_quiet (fail)
            go_wp2
            go_ret
            obtain ⟨m, hm⟩ := HR.out.2
            exact ⟨by rw [he.out]; rfl, m + nq, by rw [hm]; simp⟩
          · have he : Hid (wrg g (j + 1 + 1) = 0) := Hid.mk (wrg_next g j HR.out.1 (by rw [HX.out]; exact H1.out) (by rw [HX.out, HY.out]; exact h4))
            go_wp2
            go_quiet (fail)
            go_wp2
            obtain ⟨m, hm⟩ := HR.out.2
            exact ⟨⟨j + 1 + 1, by omega, by go_num, Hid.mk ⟨he.out, m + nq, by rw [hm]; simp⟩⟩, by simp [intOf]; omega⟩
    · obtain rfl : k = K := by omega
      go_wp2
      go_ret
      exact ⟨by rw [HR.out.1]; rfl, HR.out.2⟩

/-- The last of the first k places whose number is not above x; -1: there is none. -/
def lastLe (f : Nat → Nat) (x : Int) : Nat → Int
  | 0 => -1
  | k + 1 => if (f k : Int) ≤ x then k else lastLe f x k
theorem lastLe_of (f : Nat → Nat) (x : Int) (n c : Nat) (hc : c ≤ n) (h1 : ∀ j, j < c → (f j : Int) ≤ x) (h2 : ∀ j, c ≤ j → j < n → ¬ (f j : Int) ≤ x) : lastLe f x n = (c : Int) - 1 := by
  induction n generalizing c with
  | zero => obtain rfl : c = 0 := by omega
            rfl
  | succ n ih =>
    rw [lastLe]
    by_cases e : c = n + 1
    · subst e; rw [if_pos (h1 n (by omega))]; omega
    · rw [if_neg (h2 n (by omega) (by omega))]; exact ih c (by omega) h1 (fun j a b => h2 j a (by omega))
theorem ahead_is {f : Nat → Nat} {n : Nat} (h : Climbs f n) (x : Int) : lastLe f x n = aheadZ f n x := by
  have hle := belI_le f (min x 1099511627776 + 1) n
  rw [lastLe_of f x n (belI f (min x 1099511627776 + 1) n) hle (fun j hj => by have := belI_lt h _ hj; omega) (fun j a b => by have := belI_ge h _ a b; have := h.top j b; omega)]
  unfold aheadZ placeZ
  generalize belI f (min x 1099511627776 + 1) n = B at *
  split <;> omega
theorem lastLe_bound (f : Nat → Nat) (x : Int) (n : Nat) : -1 ≤ lastLe f x n ∧ lastLe f x n < n := by
  induction n with
  | zero => simp [lastLe]
  | succ n ih => rw [lastLe]; split <;> omega

end Go.Proofs.YtbjgbigalfhnjaaGreatDoor
