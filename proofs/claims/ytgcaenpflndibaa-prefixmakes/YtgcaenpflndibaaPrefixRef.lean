/-
  The document's answers for prefix: Sum, Where; and the chapter's example.
-/
import Derived.Test.YtgcaenpflndibaaPrefixB
import Derived.Test.YtgcaenpflndibaaEliasRefB
namespace Go.Proofs.Ytgcaenpflndibaa
open Go.RowKit

theorem refx_sum (v : Value) (n : Nat) (f : Nat → Nat) (lo hi : Int) (w : World) (h : ZRd w v n (fun j => (f j : Int))) (hn : n ≤ 900) (hf : sm f n ≤ 1099511627776) :
    Calls Try.prog 16 #[v, .int .i64 lo, .int .i64 hi] w fun e w' => e = .returned (.int .i64 (sumZ f n lo hi)) ∧ w' = w := by
  obtain ⟨ao, cap, rfl⟩ := h.shape
  rw [sum_is]
  have HH := Hid.mk (And.intro h hf)
  clear h hf
  go_enter Try.func16, Try.ntmps16
  go_wp2
  go_loop [8, 7] (fun i s => ∃ k y : Nat, k ≤ n ∧ i = .int .i64 k ∧ s = .int .i64 y ∧ y ≤ 1099511627776 ∧ Hid (y = rsum f lo hi k)) (fun i _ => n - (intOf i).toNat)
  case atStart => exact ⟨0, 0, Nat.zero_le _, rfl, rfl, by omega, Hid.mk rfl⟩
  case round =>
    obtain ⟨k, y, hk, rfl, rfl, hy, HR⟩ := hrel
    by_cases hkn : k < n
    · obtain ⟨b, o, rfl, hc⟩ := HH.out.1.cell (w' := w) k hkn
      have hck := hc (Below.refl _ _)
      clear hc
      have hle := rsum_le f lo hi (k + 1)
      have hle2 := sm_mono f (show k + 1 ≤ n by omega)
      have htop := HH.out.2
      have hz : rsum f lo hi (k + 1) = y + if lo ≤ k ∧ (k : Int) < hi then f k else 0 := by rw [rsum, ← HR.out]
      obtain ⟨x, hx⟩ : ∃ x, f k = x := ⟨_, rfl⟩
      simp only [hx] at hck
      rw [hx] at hz
      by_cases h1 : lo ≤ k
      · by_cases h2 : (k : Int) < hi
        · rw [if_pos ⟨h1, h2⟩] at hz
          obtain ⟨Y, hY⟩ : ∃ Y, y + x = Y := ⟨_, rfl⟩
          have hYi : (y : Int) + (x : Int) = (Y : Int) := by omega
          have hYb : Y ≤ 1099511627776 := by omega
          have hwY : IntKind.i64.wrap (Y : Int) = (Y : Int) := by rw [IntKind.wrap_i64]; omega
          have HX := Hid.mk (show Y = rsum f lo hi (k + 1) by omega)
          clear hY hz hle hle2 htop hx
          go_wp2
          exact ⟨⟨k + 1, Y, by omega, by go_num, rfl, hYb, HX⟩, by simp [intOf]; omega⟩
        · rw [if_neg (fun h => h2 h.2)] at hz
          have HX := Hid.mk (show y = rsum f lo hi (k + 1) by omega)
          clear hz hle hle2 htop hx
          go_wp2
          exact ⟨⟨k + 1, y, by omega, by go_num, rfl, hy, HX⟩, by simp [intOf]; omega⟩
      · rw [if_neg (fun h => h1 h.1)] at hz
        have HX := Hid.mk (show y = rsum f lo hi (k + 1) by omega)
        clear hz hle hle2 htop hx
        go_wp2
        exact ⟨⟨k + 1, y, by omega, by go_num, rfl, hy, HX⟩, by simp [intOf]; omega⟩
    · obtain rfl : k = n := by omega
      go_wp2
      go_ret
      exact ⟨by rw [← HR.out]; rfl, rfl⟩

theorem refx_where (v : Value) (n : Nat) (f : Nat → Nat) (t : Int) (w : World) (h : ZRd w v n (fun j => (f j : Int))) (hn : n ≤ 900) (hf : sm f n ≤ 1099511627776) (ht : t ≤ 9223372036854775807) :
    Calls Try.prog 18 #[v, .int .i64 t] w fun e w' => e = .returned (.int .i64 (whereZ f n t)) ∧ w' = w := by
  obtain ⟨ao, cap, rfl⟩ := h.shape
  by_cases h0 : t < 0
  · rw [where_miss f n t (.inl h0)]
    clear h
    go_enter Try.func18, Try.ntmps18
    go_wp2
    go_ret
    exact ⟨rfl, rfl⟩
  obtain ⟨T, rfl⟩ := Int.eq_ofNat_of_zero_le (show 0 ≤ t by omega)
  have HH := Hid.mk (And.intro h hf)
  clear h hf
  go_enter Try.func18, Try.ntmps18
  go_wp2
  go_loop [5, 1] (fun i s => ∃ k y : Nat, k ≤ n ∧ i = .int .i64 k ∧ s = .int .i64 y ∧ y ≤ 9223372036854775807 ∧ Hid (y + sm f k = T)) (fun i _ => n - (intOf i).toNat)
  case atStart => exact ⟨0, T, Nat.zero_le _, rfl, rfl, by omega, Hid.mk (by simp [sm])⟩
  case round =>
    obtain ⟨k, y, hk, rfl, rfl, hy, HR⟩ := hrel
    by_cases hkn : k < n
    · obtain ⟨b, o, rfl, hc⟩ := HH.out.1.cell (w' := w) k hkn
      have hck := hc (Below.refl _ _)
      clear hc
      obtain ⟨x, hx⟩ : ∃ x, f k = x := ⟨_, rfl⟩
      simp only [hx] at hck
      have HX := Hid.mk hx
      clear hx
      by_cases hlt : y < x
      · have he : Hid (whereZ f n T = k) := Hid.mk (where_hit HH.out.2 k T hkn (by have := HR.out; omega) (by rw [sm, HX.out]; have := HR.out; omega))
        go_wp2
        go_ret
        exact ⟨by rw [he.out]; rfl, rfl⟩
      · obtain ⟨Y, hY⟩ : ∃ Y, y - x = Y := ⟨_, rfl⟩
        have hYi : (y : Int) - (x : Int) = (Y : Int) := by omega
        have hYb : Y ≤ 9223372036854775807 := by omega
        have hwY : IntKind.i64.wrap (Y : Int) = (Y : Int) := by rw [IntKind.wrap_i64]; omega
        have he : Hid (Y + sm f (k + 1) = T) := Hid.mk (by rw [sm, HX.out]; have := HR.out; omega)
        clear hY
        go_wp2
        exact ⟨⟨k + 1, Y, by omega, by go_num, rfl, hYb, he⟩, by simp [intOf]; omega⟩
    · obtain rfl : k = n := by omega
      have he : Hid (whereZ f k T = -1) := Hid.mk (where_miss f k T (.inr (by have := HR.out; omega)))
      go_wp2
      go_ret
      exact ⟨by rw [he.out]; rfl, rfl⟩

def f3 (i : Nat) : Nat := [2, 0, 3].getD i 0
theorem f3_rd (w : World) : ZRd (w.alloc (.cells #[.int .i64 2, .int .i64 0, .int .i64 3] 3)) (.slice (some ⟨w.heap.size, 0, none⟩) 3 3) 3 (fun j => (f3 j : Int)) := by
  refine .inr ⟨w.heap.size, 0, 3, rfl, by simp, fun j hj => ?_⟩
  rcases (show j = 0 ∨ j = 1 ∨ j = 2 by omega) with rfl | rfl | rfl <;> simp [f3]

set_option maxHeartbeats 800000 in
set_option maxRecDepth 1000000 in
theorem px_live (w : World) : Calls Try.prog 6 #[] w fun e w' => e = .returned (.bool true) ∧ More w w' := by
  have hnew := px_new _ 3 f3 _ (f3_rd w) (by decide) (by decide)
  have hto : ∀ (s base : Nat) (w : World), PxAt w base s f3 3 → Calls Try.prog 11 #[.pointer (some ⟨s, 0, none⟩)] w fun e w' => e = .returned (.int .i64 5) ∧ More w w' := fun s base w h => by
    have := px_total base s f3 3 w h
    rwa [show ((sm f3 3 : Nat) : Int) = 5 by decide +kernel] at this
  have hsu : ∀ (s base : Nat) (w : World), PxAt w base s f3 3 → Calls Try.prog 15 #[.pointer (some ⟨s, 0, none⟩), .int .i64 1, .int .i64 3] w fun e w' => e = .returned (.int .i64 3) ∧ More w w' := fun s base w h => by
    have := px_sum base s f3 3 1 3 w h
    rwa [show sumZ f3 3 1 3 = 3 by decide +kernel] at this
  have hw1 : ∀ (s base : Nat) (w : World), PxAt w base s f3 3 → Calls Try.prog 17 #[.pointer (some ⟨s, 0, none⟩), .int .i64 1] w fun e w' => e = .returned (.int .i64 0) ∧ More w w' := fun s base w h => by
    have := px_where base s f3 3 1 w h
    rwa [show whereZ f3 3 1 = 0 by decide +kernel] at this
  have hw2 : ∀ (s base : Nat) (w : World), PxAt w base s f3 3 → Calls Try.prog 17 #[.pointer (some ⟨s, 0, none⟩), .int .i64 2] w fun e w' => e = .returned (.int .i64 2) ∧ More w w' := fun s base w h => by
    have := px_where base s f3 3 2 w h
    rwa [show whereZ f3 3 2 = 2 by decide +kernel] at this
  have hw5 : ∀ (s base : Nat) (w : World), PxAt w base s f3 3 → Calls Try.prog 17 #[.pointer (some ⟨s, 0, none⟩), .int .i64 5] w fun e w' => e = .returned (.int .i64 (-1)) ∧ More w w' := fun s base w h => by
    have := px_where base s f3 3 5 w h
    rwa [show whereZ f3 3 5 = -1 by decide +kernel] at this
  go_enter Try.func6, Try.ntmps6
  go_wp2_with (first
    | (go_at_call 7; refine hnew.mono ?_; rintro e w1 ⟨s, rfl, hs, hm⟩; have H1 := Hid.mk (And.intro hs (More.trans (more_alloc w _) hm)); clear hs hm hnew)
    | (go_at_call 11; refine (hto s _ w1 H1.out.1).mono ?_; rintro e w2 ⟨rfl, hm⟩; have H2 := Hid.mk (And.intro (H1.out.1.more hm) (More.trans H1.out.2 hm)); clear hm hto)
    | (go_at_call 15; refine (hsu s _ w2 H2.out.1).mono ?_; rintro e w3 ⟨rfl, hm⟩; have H3 := Hid.mk (And.intro (H2.out.1.more hm) (More.trans H2.out.2 hm)); clear hm hsu)
    | (go_at_call_of 17 (Value.int IntKind.i64 1); refine (hw1 s _ w3 H3.out.1).mono ?_; rintro e w4 ⟨rfl, hm⟩; have H4 := Hid.mk (And.intro (H3.out.1.more hm) (More.trans H3.out.2 hm)); clear hm hw1)
    | (go_at_call_of 17 (Value.int IntKind.i64 2); refine (hw2 s _ w4 H4.out.1).mono ?_; rintro e w5 ⟨rfl, hm⟩; have H5 := Hid.mk (And.intro (H4.out.1.more hm) (More.trans H4.out.2 hm)); clear hm hw2)
    | (go_at_call_of 17 (Value.int IntKind.i64 5); refine (hw5 s _ w5 H5.out.1).mono ?_; rintro e w6 ⟨rfl, hm⟩; have H6 := Hid.mk (More.trans H5.out.2 hm); clear hm hw5))
  go_ret
  exact ⟨rfl, H6.out⟩

end Go.Proofs.Ytgcaenpflndibaa
