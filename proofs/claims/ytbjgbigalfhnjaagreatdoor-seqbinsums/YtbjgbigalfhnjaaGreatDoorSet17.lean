/-
  The document's answers for elias: Wrong, At, Next, Ahead, Find, Low, Size.
  The document's answers for elias: Find, Low, Size.
-/
import Derived.Test.YtbjgbigalfhnjaaGreatDoorSet16
namespace Go.Proofs.YtbjgbigalfhnjaaGreatDoor
open Go.RowKit

theorem wrg_8 (g : Nat → Int) (k K : Nat) (hk : k < K) (h0 : wrg g k = 0) (h : g k < 0 ∨ 1099511627776 < g k) : wrg g K = 8 := by
  have e : wrg g (k + 1) = 8 := by rw [wrg, if_neg (by omega), if_pos h]
  rw [wrg_keeps g (k := k + 1) hk (by omega), e]
theorem wrg_9 (g : Nat → Int) (k K : Nat) (hk : k + 1 < K) (h0 : wrg g (k + 1) = 0) (h : ¬ (g (k + 1) < 0 ∨ 1099511627776 < g (k + 1))) (h1 : g (k + 1) < g k) : wrg g K = 9 := by
  have e : wrg g (k + 1 + 1) = 9 := by rw [wrg, if_neg (by omega), if_neg h, if_pos ⟨by omega, by simpa using h1⟩]
  rw [wrg_keeps g (k := k + 1 + 1) hk (by omega), e]
theorem wrg_next (g : Nat → Int) (k : Nat) (h0 : wrg g (k + 1) = 0) (h : ¬ (g (k + 1) < 0 ∨ 1099511627776 < g (k + 1))) (h1 : ¬ g (k + 1) < g k) : wrg g (k + 1 + 1) = 0 := by
  rw [wrg, if_neg (by omega), if_neg h, if_neg]; simpa using h1
theorem wrg_one (g : Nat → Int) (h : ¬ (g 0 < 0 ∨ 1099511627776 < g 0)) : wrg g 1 = 0 := by
  rw [wrg, if_neg (by simp [wrg]), if_neg h, if_neg (by omega)]

set_option maxHeartbeats 800000 in
set_option maxRecDepth 1000000 in
theorem ref_wrong (v : Value) (K : Nat) (g : Nat → Int) (w : World) (h : ZRd w v K g) (hK : K ≤ 1000000) :
    Calls Tryz.prog 38 #[v] w fun e w' => e = .returned (.int .i64 (wrg g K)) ∧ ∃ m, w' = w.drewN m := by
  obtain ⟨ao, cap, rfl⟩ := h.shape
  have HH := Hid.mk h
  clear h
  go_enter Tryz.func38, Tryz.ntmps38
  go_wp2
  go_loopw [3] (fun i wr => ∃ k : Nat, k ≤ K ∧ i = .int .i64 k ∧ Hid (wrg g k = 0 ∧ ∃ m, wr = w.drewN m)) (fun i _ => K - (intOf i).toNat)
  case atStart => exact ⟨0, Nat.zero_le _, rfl, Hid.mk ⟨rfl, 0, rfl⟩⟩
  case round =>
    obtain ⟨k, hk, rfl, HR⟩ := hrel
    have hmore : Hid (More w wr) := Hid.mk (by obtain ⟨m, hm⟩ := HR.out.2; rw [hm]; exact More.drewN w m)
    by_cases hkK : k < K
    · obtain ⟨b, o, rfl, hc⟩ := HH.out.cell (w' := wr) k hkK
      have hck := hc hmore.out
      clear hc
      obtain ⟨x, hx⟩ : ∃ x, g k = x := ⟨_, rfl⟩
      rw [hx] at hck
      have HX := Hid.mk hx
      clear hx
      by_cases h1 : x < 0 ∨ 1099511627776 < x
      · have he : Hid (wrg g K = 8) := Hid.mk (wrg_8 g k K hkK HR.out.1 (by rw [HX.out]; exact h1))
        rcases (show x < 0 ∨ (¬ x < 0 ∧ 1099511627776 < x) by omega) with h2 | ⟨h2, h3⟩
        all_goals
          clear h1
          go_wp2
          go_ret
          exact ⟨by rw [he.out]; rfl, HR.out.2⟩
      · have H1 := Hid.mk h1
        have hx0 : ¬ x < 0 := by omega
        have hx1 : ¬ 1099511627776 < x := by omega
        clear h1
        cases k with
        | zero =>
          rw [Nat.add_zero] at hck
          go_wp2
          go_quiet (fail)
          go_wp2
          obtain ⟨m, hm⟩ := HR.out.2
          exact ⟨⟨1, by omega, by go_num, Hid.mk ⟨wrg_one g (by rw [HX.out]; exact H1.out), m + nq, by rw [hm]; simp⟩⟩, by simp [intOf]; omega⟩
        | succ j =>
          obtain ⟨b', o', he, hc⟩ := HH.out.cell (w' := wr) j (by omega)
          simp at he
          obtain ⟨rfl, rfl⟩ := he
          have hcj := hc hmore.out
          clear hc
          obtain ⟨y, hy⟩ : ∃ y, g j = y := ⟨_, rfl⟩
          rw [hy] at hcj
          have HY := Hid.mk hy
          clear hy
          by_cases h4 : x < y
          · have he : Hid (wrg g K = 9) := Hid.mk (wrg_9 g j K hkK HR.out.1 (by rw [HX.out]; exact H1.out) (by rw [HX.out, HY.out]; exact h4))
            go_wp2
            go_quiet (fail)
            go_wp2
            go_ret
            obtain ⟨m, hm⟩ := HR.out.2
            exact ⟨by rw [he.out]; rfl, m + nq, by rw [hm]; simp⟩
          · have he : Hid (wrg g (j + 1 + 1) = 0) := Hid.mk (wrg_next g j HR.out.1 (by rw [HX.out]; exact H1.out) (by rw [HX.out, HY.out]; exact h4))
            go_wp2
            go_quiet (fail)
            go_wp2
            obtain ⟨m, hm⟩ := HR.out.2
            exact ⟨⟨j + 1 + 1, by omega, by go_num, Hid.mk ⟨he.out, m + nq, by rw [hm]; simp⟩⟩, by simp [intOf]; omega⟩
    · obtain rfl : k = K := by omega
      go_wp2
      go_ret
      exact ⟨by rw [HR.out.1]; rfl, HR.out.2⟩

/-- The last of the first k places whose number is not above x; -1: there is none. -/
def lastLe (f : Nat → Nat) (x : Int) : Nat → Int
  | 0 => -1
  | k + 1 => if (f k : Int) ≤ x then k else lastLe f x k
theorem lastLe_of (f : Nat → Nat) (x : Int) (n c : Nat) (hc : c ≤ n) (h1 : ∀ j, j < c → (f j : Int) ≤ x) (h2 : ∀ j, c ≤ j → j < n → ¬ (f j : Int) ≤ x) : lastLe f x n = (c : Int) - 1 := by
  induction n generalizing c with
  | zero => obtain rfl : c = 0 := by omega
            rfl
  | succ n ih =>
    rw [lastLe]
    by_cases e : c = n + 1
    · subst e; rw [if_pos (h1 n (by omega))]; omega
    · rw [if_neg (h2 n (by omega) (by omega))]; exact ih c (by omega) h1 (fun j a b => h2 j a (by omega))
theorem ahead_is {f : Nat → Nat} {n : Nat} (h : Climbs f n) (x : Int) : lastLe f x n = aheadZ f n x := by
  have hle := belI_le f (min x 1099511627776 + 1) n
  rw [lastLe_of f x n (belI f (min x 1099511627776 + 1) n) hle (fun j hj => by have := belI_lt h _ hj; omega) (fun j a b => by have := belI_ge h _ a b; have := h.top j b; omega)]
  unfold aheadZ placeZ
  generalize belI f (min x 1099511627776 + 1) n = B at *
  split <;> omega
theorem lastLe_bound (f : Nat → Nat) (x : Int) (n : Nat) : -1 ≤ lastLe f x n ∧ lastLe f x n < n := by
  induction n with
  | zero => simp [lastLe]
  | succ n ih => rw [lastLe]; split <;> omega

end Go.Proofs.YtbjgbigalfhnjaaGreatDoor

namespace Go.Proofs.YtbjgbigalfhnjaaGreatDoor
open Go.RowKit

theorem find_hit {f : Nat → Nat} {n : Nat} (h : Climbs f n) (lo hi x : Int) (k : Nat) (hk : k < n) (h1 : lo ≤ k) (h2 : (k : Int) < hi) (h3 : (f k : Int) = x) (h0 : ∀ j : Nat, j < k → lo ≤ j → (j : Int) < hi → (f j : Int) ≠ x) : findZ f n lo hi x = k := by
  have hB : belI f x n ≤ k := by
    rcases Nat.lt_or_ge k (belI f x n) with hlt | hge
    · have := belI_lt h x hlt; omega
    · exact hge
  have hi0 : max lo (belI f x n : Nat) = (k : Int) := by
    obtain ⟨i, hi'⟩ := Int.eq_ofNat_of_zero_le (show 0 ≤ max lo (belI f x n : Nat) by omega)
    rw [hi']
    rcases Nat.lt_or_ge i k with hlt | hge
    · have a := belI_ge h x (show belI f x n ≤ i by omega) (by omega)
      have b := h.mono (show i ≤ k by omega) hk
      exact absurd (show (f i : Int) = x by omega) (h0 i hlt (by omega) (by omega))
    · omega
  unfold findZ
  rw [hi0, if_neg (by omega), atZ_in f n k hk, if_pos h3]
theorem find_miss {f : Nat → Nat} {n : Nat} (lo hi x : Int) (h0 : ∀ j : Nat, j < n → lo ≤ j → (j : Int) < hi → (f j : Int) ≠ x) : findZ f n lo hi x = -1 := by
  unfold findZ
  split
  · rfl
  · rename_i hno
    obtain ⟨i, hi'⟩ := Int.eq_ofNat_of_zero_le (show 0 ≤ max lo (belI f x n : Nat) by omega)
    rw [hi'] at hno ⊢
    rw [atZ_in f n i (by omega), if_neg (h0 i (by omega) (by omega) (by omega))]

theorem ref_low (n u : Int) (hn : n ≤ 9223372036854775807) (hu : u ≤ 9223372036854775807) (w : World) : Calls Tryz.prog 34 #[.int .i64 n, .int .i64 u] w fun e w' => e = .returned (.int .i64 (lowZ n u : Nat)) ∧ w' = w := by
  by_cases h1 : n < 1
  · rw [show lowZ n u = 0 by unfold lowZ; rw [if_pos (.inl h1)]]
    go_enter Tryz.func34, Tryz.ntmps34
    go_wp2
    go_ret
    exact ⟨rfl, rfl⟩
  by_cases h2 : u < 1
  · rw [show lowZ n u = 0 by unfold lowZ; rw [if_pos (.inr (by omega))]]
    go_enter Tryz.func34, Tryz.ntmps34
    go_wp2
    go_ret
    exact ⟨rfl, rfl⟩
  obtain ⟨N, rfl⟩ := Int.eq_ofNat_of_zero_le (show 0 ≤ n by omega)
  obtain ⟨U, rfl⟩ := Int.eq_ofNat_of_zero_le (show 0 ≤ u by omega)
  rw [lowZ_nat]
  go_enter Tryz.func34, Tryz.ntmps34
  go_wp2
  go_loop [1, 5] (fun a c => ∃ x k : Nat, a = .int .i64 x ∧ c = .int .i64 k ∧ x ≤ U ∧ k ≤ 64 ∧ Hid (x = U / 2 ^ k ∧ (k = 0 ∨ N ≤ x))) (fun a _ => (intOf a).toNat)
  case atStart => exact ⟨U, 0, rfl, rfl, Nat.le_refl _, by decide, Hid.mk ⟨by simp, .inl rfl⟩⟩
  case round =>
    obtain ⟨x, k, rfl, rfl, hxU, hk64, HR⟩ := hrel
    obtain ⟨y, hy⟩ : ∃ y, x / 2 = y := ⟨_, rfl⟩
    have e1 : (x : Int) / 2 = y := by omega
    have e2 : (x : Int).tdiv 2 = y := by rw [Int.tdiv_eq_ediv_of_nonneg (by omega)]; exact e1
    have hyx : 2 * y ≤ x := by omega
    have HY := Hid.mk (show y = U / 2 ^ (k + 1) by rw [← hy, HR.out.1, Nat.div_div_eq_div_mul, Nat.pow_succ])
    clear hy
    by_cases hN : N ≤ y
    · have hb : k + 1 ≤ lowN N U := (low_iff N U (k + 1) (by omega) (by omega) (by omega)).1 (by rw [← HY.out]; exact hN)
      have hb2 := low_le64 N U (by omega)
      have hk1 : k + 1 ≤ 64 := by omega
      clear hb hb2
      go_wp2
      exact ⟨⟨y, k + 1, rfl, by go_num, by omega, hk1, Hid.mk ⟨HY.out, .inr hN⟩⟩, by simp [intOf]; omega⟩
    · have he : Hid (lowN N U = k) := Hid.mk (by
        by_cases hNU : N ≤ U
        · have a : k ≤ lowN N U := (low_iff N U k (by omega) hNU (by omega)).1 (by
            rcases HR.out.2 with h0 | h0
            · subst h0; simpa using hNU
            · rw [← HR.out.1]; exact h0)
          have b : ¬ k + 1 ≤ lowN N U := fun hh => hN (by rw [HY.out]; exact (low_iff N U (k + 1) (by omega) hNU (by omega)).2 hh)
          omega
        · rw [low_small N U (by omega)]
          rcases HR.out.2 with h0 | h0 <;> omega)
      go_wp2
      go_ret
      exact ⟨by rw [he.out]; rfl, rfl⟩

end Go.Proofs.YtbjgbigalfhnjaaGreatDoor
