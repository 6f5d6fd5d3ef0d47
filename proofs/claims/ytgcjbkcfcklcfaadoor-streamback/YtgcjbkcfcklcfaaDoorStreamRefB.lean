/-
  The document's reads: noughts, low, of bits that lie anywhere.
-/
import Derived.Test.YtgcjbkcfcklcfaaDoorStreamRefA
namespace Go.Proofs.YtgcjbkcfcklcfaaDoor
open Go.RowKit

/-- A slice of n bits is read, wherever it begins. -/
def BRo (w : World) (v : Value) (n V : Nat) : Prop :=
  (n = 0 ∧ ∃ ao cap, v = .slice ao 0 cap) ∨ ∃ g o cap, v = .slice (some ⟨g, o, none⟩) n cap ∧ ∀ j, j < n → w.cell? ⟨g, o + j, none⟩ = some (.bool (V.testBit j))
theorem bro_of_own {w : World} {base : Nat} {v : Value} {n V : Nat} (h : w.ownsRow base 4 1 v n (bools V n)) : BRo w v n V := by
  rcases h.2 with ⟨rfl, hn⟩ | ⟨g, cap, cur, rfl, _, hg, _⟩
  · exact .inl ⟨hn, _, _, rfl⟩
  · exact .inr ⟨g, 0, cap, rfl, fun j hj => by rw [Nat.zero_add, h.cellAt j (by omega), bools_get _ _ _ hj]⟩
theorem BRo.shape {w : World} {v : Value} {n V : Nat} (h : BRo w v n V) : ∃ ao cap, v = .slice ao n cap := by
  rcases h with ⟨rfl, ao, cap, rfl⟩ | ⟨g, o, cap, rfl, _⟩
  · exact ⟨_, _, rfl⟩
  · exact ⟨_, _, rfl⟩

theorem refo_bit (v : Value) (n V : Nat) (i : Int) (w : World) (h : BRo w v n V) (hV : V < 2 ^ n) (hn : n ≤ 1099511627776) :
    Calls Tryd.prog 57 #[v, .int .i64 i] w fun e w' => e = .returned (.bool (bitI V i)) ∧ w' = w := by
  obtain ⟨ao, cap, rfl⟩ := h.shape
  by_cases h0 : i < 0
  · rw [show bitI V i = false by simp [bitI]; omega]
    clear h
    go_enter Tryd.func57, Tryd.ntmps57
    go_wp2
    go_ret
    exact ⟨rfl, rfl⟩
  obtain ⟨i, rfl⟩ := Int.eq_ofNat_of_zero_le (show 0 ≤ i by omega)
  by_cases h1 : i < n
  · rw [show bitI V i = V.testBit i by simp [bitI]]
    obtain ⟨g, o, rfl, hc⟩ : ∃ g o, ao = some ⟨g, o, none⟩ ∧ ∀ j, j < n → w.cell? ⟨g, o + j, none⟩ = some (.bool (V.testBit j)) := by
      rcases h with ⟨rfl, _⟩ | ⟨g, o, cap', h, hc⟩
      · omega
      · simp at h; exact ⟨g, o, h.1, hc⟩
    have hci := hc i h1
    clear h hc h0
    go_enter Tryd.func57, Tryd.ntmps57
    go_wp2
    go_ret
    exact ⟨rfl, rfl⟩
  · rw [show bitI V i = false by simp [bitI]; exact bit_above hV (by omega)]
    clear h h0
    go_enter Tryd.func57, Tryd.ntmps57
    go_wp2
    go_ret
    exact ⟨rfl, rfl⟩

set_option maxHeartbeats 800000 in
theorem refo_cut (v : Value) (n V : Nat) (a m : Int) (w : World) (h : BRo w v n V) (hV : V < 2 ^ n) (hn : n ≤ 1099511627776) (a0 : -9223372036854775808 ≤ a) (a1 : a ≤ 9223372036854775807) :
    Calls Tryd.prog 39 #[v, .int .i64 a, .int .i64 m] w fun e w' => e = .returned (.int .u64 (cutV V a (min 64 m.toNat) : Nat)) ∧ w' = w := by
  obtain ⟨ao, cap, rfl⟩ := h.shape
  obtain ⟨M, hM⟩ : ∃ M, min 64 m.toNat = M := ⟨_, rfl⟩
  rw [hM]
  have HH : Hid _ := And.intro h (And.intro hV hM)
  clear h hV hM
  go_enter Tryd.func39, Tryd.ntmps39
  go_wp2
  go_loop [9, 7, 8] (fun i o p => ∃ k O P : Nat, k ≤ M ∧ i = .int .i64 k ∧ o = .int .u64 O ∧ p = .int .u64 P ∧ Hid (O = cutV V a k) ∧ Hid (P = 2 ^ k % 18446744073709551616)) (fun i _ _ => M - (intOf i).toNat)
  case atStart => exact ⟨0, 0, 1, Nat.zero_le _, rfl, rfl, rfl, Hid.mk (cutV_zero V a).symm, Hid.mk rfl⟩
  case round =>
    obtain ⟨k, O, P, hk, rfl, rfl, rfl, hO, hP⟩ := hrel
    by_cases hkM : k < M
    · have h64 : k < 64 := by have := HH.out.2.2; omega
      have hkm : (k : Int) < m := by have := HH.out.2.2; omega
      have hPl : P < 18446744073709551616 := by have := hP.out; omega
      by_cases hin : -63 ≤ a ∧ a < n
      · obtain ⟨hin1, hin2⟩ := hin
        go_wp2_with (go_at_call 57; refine (refo_bit _ n V _ _ HH.out.1 HH.out.2.1 hn).mono ?_; rintro e w' ⟨rfl, rfl⟩)
        · refine ⟨⟨k + 1, _, _, by omega, by go_num, by rw [cut_add V k O P a h64 (by assumption) hO.out hP.out], by rw [cut_twice k P hP.out], Hid.mk rfl, Hid.mk rfl⟩, by simp [intOf]; omega⟩
        · refine ⟨⟨k + 1, O, _, by omega, by go_num, rfl, by rw [cut_twice k P hP.out], Hid.mk ?_, Hid.mk rfl⟩, by simp [intOf]; omega⟩
          rw [cut_none V k a (by assumption)]; exact hO.out
      · have hb := cut_off V n k a HH.out.2.1 h64 hin
        have HB : Hid _ := hb
        clear hb
        rcases (show a < -63 ∨ (-63 ≤ a ∧ (n : Int) ≤ a) by omega) with hin | ⟨hin, hin2⟩
        all_goals
          go_wp2
          refine ⟨⟨k + 1, O, _, by omega, by go_num, rfl, by rw [cut_twice k P hP.out], Hid.mk ?_, Hid.mk rfl⟩, by simp [intOf]; omega⟩
          rw [cut_none V k a HB.out]; exact hO.out
    · have hkm : ¬ (k : Int) < 64 ∨ ((k : Int) < 64 ∧ ¬ (k : Int) < m) := by have := HH.out.2.2; omega
      obtain rfl : k = M := by omega
      rcases hkm with hkm | ⟨hkm, hkm2⟩
      all_goals
        go_wp2
        go_ret
        rw [← hO.out]
        exact ⟨rfl, rfl⟩


set_option maxRecDepth 1000000 in
theorem ref_low (v : Value) (m U a k : Nat) (w : World) (h : BRo w v m U) (hU : U < 2 ^ m) (hm : m ≤ 1099511627776) (hk : k ≤ 64) (ha : a ≤ 1099511627776) :
    Calls Tryd.prog 40 #[v, .int .i64 a, .int .i64 k] w fun e w' => e = .returned (.tuple #[.int .u64 (if m < a + k then 0 else U / 2 ^ a % 2 ^ k : Nat), .int .i64 (if m < a + k then 2 else 0)]) ∧ w' = w := by
  have hc := refo_cut v m U a k w h hU hm (by omega) (by omega)
  rw [show cutV U (a : Int) (min 64 (Int.toNat (k : Int))) = U / 2 ^ a % 2 ^ k by
    unfold cutV; rw [if_neg (by omega), show min 64 (Int.toNat (k : Int)) = k by simp; omega]; simp] at hc
  obtain ⟨ao, cap, rfl⟩ := h.shape
  clear h hU
  generalize U / 2 ^ a % 2 ^ k = R at *
  by_cases h1 : m < a + k
  · rw [if_pos h1, if_pos h1]
    rcases (show m < a ∨ (¬ m < a ∧ (m : Int) - a < k) by omega) with h2 | ⟨h2, h3⟩
    all_goals
      clear hc h1
      go_enter Tryd.func40, Tryd.ntmps40
      go_wp2
      go_ret2
      exact ⟨rfl, rfl⟩
  · rw [if_neg h1, if_neg h1]
    have h2 : ¬ m < a := by omega
    have h3 : ¬ (m : Int) - a < k := by omega
    clear h1
    go_enter Tryd.func40, Tryd.ntmps40
    go_wp2_with (go_at_call 39; refine hc.mono ?_; rintro e w' ⟨rfl, hw'⟩; subst w')
    go_ret2
    exact ⟨rfl, rfl⟩

set_option maxRecDepth 1000000 in
theorem ref_noughts (v : Value) (m U lim q er : Nat) (w : World) (h : BRo w v m U) (hm : m ≤ 1099511627776) (hl : lim ≤ 4096) (hq : nq U m lim = (q, er)) :
    Calls Tryd.prog 41 #[v, .int .i64 lim] w fun e w' => e = .returned (.tuple #[.int .i64 q, .int .i64 er]) ∧ w' = w := by
  obtain ⟨ao, cap, rfl⟩ := h.shape
  have HH : Hid _ := And.intro h hq
  clear h hq
  go_enter Tryd.func41, Tryd.ntmps41
  go_wp2
  go_loop [6] (fun i => ∃ k : Nat, k ≤ m ∧ k ≤ lim ∧ i = .int .i64 k ∧ Hid (∀ j, j < k → U.testBit j = false)) (fun i => m - (intOf i).toNat)
  case atStart => exact ⟨0, Nat.zero_le _, Nat.zero_le _, rfl, Hid.mk fun j hj => by omega⟩
  case round =>
    obtain ⟨k, hk, hkl, rfl, HP⟩ := hrel
    by_cases hkm : k < m
    · obtain ⟨g, o, rfl, hc⟩ : ∃ g o, ao = some ⟨g, o, none⟩ ∧ w.cell? ⟨g, o + k, none⟩ = some (.bool (U.testBit k)) := by
        rcases HH.out.1 with ⟨rfl, _⟩ | ⟨g, o, cap', h, hc⟩
        · omega
        · simp at h; exact ⟨g, o, h.1, hc k hkm⟩
      have HQ := HH.out.2
      cases hb : U.testBit k with
      | true =>
        rw [nq_found hkm hkl hb HP.out] at HQ
        simp only [Prod.mk.injEq] at HQ
        obtain ⟨rfl, rfl⟩ := HQ
        rw [hb] at hc
        clear HH HP hb
        go_wp2
        go_ret2
        exact ⟨rfl, rfl⟩
      | false =>
        rw [hb] at hc
        have hP2 : ∀ j, j < k + 1 → U.testBit j = false := fun j hj => by
          rcases (show j < k ∨ j = k by omega) with h1 | rfl
          · exact HP.out j h1
          · exact hb
        by_cases hkl2 : k = lim
        · subst hkl2
          rw [nq_long hkm fun j hj => hP2 j (by omega)] at HQ
          simp only [Prod.mk.injEq] at HQ
          obtain ⟨rfl, rfl⟩ := HQ
          clear HH HP hb hP2
          go_wp2
          go_ret2
          exact ⟨rfl, rfl⟩
        · have H2 := Hid.mk hP2
          clear HQ HP hb hP2
          go_wp2
          exact ⟨⟨k + 1, by omega, by omega, by go_num, H2⟩, by simp [intOf]; omega⟩
    · obtain rfl : k = m := by omega
      have HQ := HH.out.2
      rw [nq_short hkl HP.out] at HQ
      simp only [Prod.mk.injEq] at HQ
      obtain ⟨rfl, rfl⟩ := HQ
      clear HH HP
      go_wp2
      go_ret2
      exact ⟨rfl, rfl⟩

end Go.Proofs.YtgcjbkcfcklcfaaDoor
