/-
  The document's answers for elias: Find, Low, Size.
-/
import Derived.Test.YtgcaenpflndibaaEliasRef
namespace Go.Proofs.Ytgcaenpflndibaa
open Go.RowKit

theorem find_hit {f : Nat → Nat} {n : Nat} (h : Climbs f n) (lo hi x : Int) (k : Nat) (hk : k < n) (h1 : lo ≤ k) (h2 : (k : Int) < hi) (h3 : (f k : Int) = x) (h0 : ∀ j : Nat, j < k → lo ≤ j → (j : Int) < hi → (f j : Int) ≠ x) : findZ f n lo hi x = k := by
  have hB : belI f x n ≤ k := by
    rcases Nat.lt_or_ge k (belI f x n) with hlt | hge
    · have := belI_lt h x hlt; omega
    · exact hge
  have hi0 : max lo (belI f x n : Nat) = (k : Int) := by
    obtain ⟨i, hi'⟩ := Int.eq_ofNat_of_zero_le (show 0 ≤ max lo (belI f x n : Nat) by omega)
    rw [hi']
    rcases Nat.lt_or_ge i k with hlt | hge
    · have a := belI_ge h x (show belI f x n ≤ i by omega) (by omega)
      have b := h.mono (show i ≤ k by omega) hk
      exact absurd (show (f i : Int) = x by omega) (h0 i hlt (by omega) (by omega))
    · omega
  unfold findZ
  rw [hi0, if_neg (by omega), atZ_in f n k hk, if_pos h3]
theorem find_miss {f : Nat → Nat} {n : Nat} (lo hi x : Int) (h0 : ∀ j : Nat, j < n → lo ≤ j → (j : Int) < hi → (f j : Int) ≠ x) : findZ f n lo hi x = -1 := by
  unfold findZ
  split
  · rfl
  · rename_i hno
    obtain ⟨i, hi'⟩ := Int.eq_ofNat_of_zero_le (show 0 ≤ max lo (belI f x n : Nat) by omega)
    rw [hi'] at hno ⊢
    rw [atZ_in f n i (by omega), if_neg (h0 i (by omega) (by omega) (by omega))]

theorem ref_low (n u : Int) (hn : n ≤ 9223372036854775807) (hu : u ≤ 9223372036854775807) (w : World) : Calls Try.prog 24 #[.int .i64 n, .int .i64 u] w fun e w' => e = .returned (.int .i64 (lowZ n u : Nat)) ∧ w' = w := by
  by_cases h1 : n < 1
  · rw [show lowZ n u = 0 by unfold lowZ; rw [if_pos (.inl h1)]]
    go_enter Try.func24, Try.ntmps24
    go_wp2
    go_ret
    exact ⟨rfl, rfl⟩
  by_cases h2 : u < 1
  · rw [show lowZ n u = 0 by unfold lowZ; rw [if_pos (.inr (by omega))]]
    go_enter Try.func24, Try.ntmps24
    go_wp2
    go_ret
    exact ⟨rfl, rfl⟩
  obtain ⟨N, rfl⟩ := Int.eq_ofNat_of_zero_le (show 0 ≤ n by omega)
  obtain ⟨U, rfl⟩ := Int.eq_ofNat_of_zero_le (show 0 ≤ u by omega)
  rw [lowZ_nat]
  go_enter Try.func24, Try.ntmps24
  go_wp2
  go_loop [1, 5] (fun a c => ∃ x k : Nat, a = .int .i64 x ∧ c = .int .i64 k ∧ x ≤ U ∧ k ≤ 64 ∧ Hid (x = U / 2 ^ k ∧ (k = 0 ∨ N ≤ x))) (fun a _ => (intOf a).toNat)
  case atStart => exact ⟨U, 0, rfl, rfl, Nat.le_refl _, by decide, Hid.mk ⟨by simp, .inl rfl⟩⟩
  case round =>
    obtain ⟨x, k, rfl, rfl, hxU, hk64, HR⟩ := hrel
    obtain ⟨y, hy⟩ : ∃ y, x / 2 = y := ⟨_, rfl⟩
    have e1 : (x : Int) / 2 = y := by omega
    have e2 : (x : Int).tdiv 2 = y := by rw [Int.tdiv_eq_ediv_of_nonneg (by omega)]; exact e1
    have hyx : 2 * y ≤ x := by omega
    have HY := Hid.mk (show y = U / 2 ^ (k + 1) by rw [← hy, HR.out.1, Nat.div_div_eq_div_mul, Nat.pow_succ])
    clear hy
    by_cases hN : N ≤ y
    · have hb : k + 1 ≤ lowN N U := (low_iff N U (k + 1) (by omega) (by omega) (by omega)).1 (by rw [← HY.out]; exact hN)
      have hb2 := low_le64 N U (by omega)
      have hk1 : k + 1 ≤ 64 := by omega
      clear hb hb2
      go_wp2
      exact ⟨⟨y, k + 1, rfl, by go_num, by omega, hk1, Hid.mk ⟨HY.out, .inr hN⟩⟩, by simp [intOf]; omega⟩
    · have he : Hid (lowN N U = k) := Hid.mk (by
        by_cases hNU : N ≤ U
        · have a : k ≤ lowN N U := (low_iff N U k (by omega) hNU (by omega)).1 (by
            rcases HR.out.2 with h0 | h0
            · subst h0; simpa using hNU
            · rw [← HR.out.1]; exact h0)
          have b : ¬ k + 1 ≤ lowN N U := fun hh => hN (by rw [HY.out]; exact (low_iff N U (k + 1) (by omega) hNU (by omega)).2 hh)
          omega
        · rw [low_small N U (by omega)]
          rcases HR.out.2 with h0 | h0 <;> omega)
      go_wp2
      go_ret
      exact ⟨by rw [he.out]; rfl, rfl⟩

theorem ref_size (v : Value) (n : Nat) (f : Nat → Nat) (w : World) (h : ZRd w v n (fun j => (f j : Int))) (hC : Climbs f n) (hn : n ≤ 1000) :
    Calls Try.prog 14 #[v] w fun e w' => e = .returned (.int .i64 (sizeN f (wdt f n) n : Nat)) ∧ w' = w := by
  obtain ⟨ao, cap, rfl⟩ := h.shape
  cases n with
  | zero =>
    rw [show sizeN f (wdt f 0) 0 = 0 by simp [sizeN, hN]]
    clear h hC
    go_enter Try.func14, Try.ntmps14
    go_wp2
    go_ret
    exact ⟨rfl, rfl⟩
  | succ k =>
    obtain ⟨b, o, rfl, hc⟩ := h.cell (w' := w) k (Nat.lt_succ_self k)
    have hck := hc (Below.refl _ _)
    have htop := hC.top k (Nat.lt_succ_self k)
    have hd := wdt_le hC
    have hlow := ref_low ((k + 1 : Nat) : Int) (f k : Nat) (by omega) (by omega) w
    rw [lowZ_nat, show lowN (k + 1) (f k) = wdt f (k + 1) from rfl] at hlow
    rw [show sizeN f (wdt f (k + 1)) (k + 1) = (k + 1) * wdt f (k + 1) + (f k / 2 ^ wdt f (k + 1) + (k + 1)) by unfold sizeN; rw [hN]; unfold hp; omega]
    obtain ⟨D, hD⟩ : ∃ D, wdt f (k + 1) = D := ⟨_, rfl⟩
    rw [hD] at hlow hd ⊢
    obtain ⟨x, hx⟩ : ∃ x, f k = x := ⟨_, rfl⟩
    simp only [hx] at hck htop hlow
    rw [hx]
    obtain ⟨M, hM⟩ : ∃ M, (k + 1) * D = M := ⟨_, rfl⟩
    have hMb : M ≤ 40000 := by rw [← hM]; exact Nat.mul_le_mul hn hd
    have e1 : ((k : Int) + 1) * (D : Int) = M := by rw [← hM, Int.natCast_mul, Int.natCast_add]; rfl
    rw [hM]
    rw [Int.natCast_add, Int.natCast_one] at hlow
    have hk1 : ¬ (k : Int) + 1 = 0 := by omega
    have wM : IntKind.i64.wrap (M : Int) = M := by rw [IntKind.wrap_i64]; omega
    obtain ⟨S, hS⟩ : ∃ S, M + (x / 2 ^ D + (k + 1)) = S := ⟨_, rfl⟩
    rw [hS]
    have HS := Hid.mk hS
    clear h hC hc hD hx hM hS
    go_enter Try.func14, Try.ntmps14
    go_wp2_with (go_at_call 24; refine hlow.mono ?_; rintro e w' ⟨rfl, hw⟩; subst w'; clear hlow)
    go_loop [3, 5] (fun a c => ∃ y j : Nat, a = .int .i64 y ∧ c = .int .i64 j ∧ j ≤ D ∧ y ≤ x ∧ Hid (y = x / 2 ^ j)) (fun _ c => D - (intOf c).toNat)
    case atStart => exact ⟨x, 0, rfl, rfl, Nat.zero_le _, Nat.le_refl _, Hid.mk (by simp)⟩
    case round =>
      obtain ⟨y, j, rfl, rfl, hj, hyx, HR⟩ := hrel
      by_cases hjD : j < D
      · obtain ⟨z, hz⟩ : ∃ z, y / 2 = z := ⟨_, rfl⟩
        have e3 : (y : Int) / 2 = z := by omega
        have e2 : (y : Int).tdiv 2 = z := by rw [Int.tdiv_eq_ediv_of_nonneg (by omega)]; exact e3
        have HZ := Hid.mk (show z = x / 2 ^ (j + 1) by rw [← hz, HR.out, Nat.div_div_eq_div_mul, Nat.pow_succ])
        have hzy : z ≤ y := by omega
        clear hz
        go_wp2
        exact ⟨⟨z, j + 1, rfl, by go_num, by omega, by omega, HZ⟩, by simp [intOf]; omega⟩
      · obtain rfl : j = D := by omega
        go_wp2
        go_ret
        have e : (M : Int) + (y : Int) + ((k : Int) + 1) = S := by have h1 := HS.out; rw [← HR.out] at h1; omega
        exact ⟨by rw [e]; rfl, rfl⟩

end Go.Proofs.Ytgcaenpflndibaa
