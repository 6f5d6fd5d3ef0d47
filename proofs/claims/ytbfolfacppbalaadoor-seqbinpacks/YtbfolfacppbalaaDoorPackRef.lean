/-
  The document's own answers: Width, Words, Find, Rises, Of.
-/
import Derived.Test.YtbfolfacppbalaaDoorPackA
namespace Go.Proofs.YtbfolfacppbalaaDoor
open Go.RowKit

theorem own_lower {w : World} {base base' : Nat} {e : TypeId} {size : Nat} {v : Value} {n : Nat} {xs : List Value} (h : w.ownsRow base e size v n xs) (hb : base' ≤ base) : w.ownsRow base' e size v n xs := by
  refine ⟨h.1, ?_⟩
  rcases h.2 with h2 | ⟨g, cap, cur, hv, hg, hr⟩
  · exact .inl h2
  · exact .inr ⟨g, cap, cur, hv, Nat.le_trans hb hg, hr⟩

theorem refp_width (v : Value) (K : Nat) (f : Nat → Nat) (w : World) (h : Rd w v K f) (hf : ∀ j, j < K → f j < 18446744073709551616) (hK : K ≤ 2000000) :
    Calls Tryd.prog 25 #[v] w fun e w' => e = .returned (.int .i64 (wid f K)) ∧ w' = w := by
  obtain ⟨ao, cap, rfl⟩ := h.shape
  have HH : Hid _ := And.intro h hf
  clear h hf
  go_enter Tryd.func25, Tryd.ntmps25
  go_wp2
  go_loop [3, 4] (fun s i => ∃ k D : Nat, k ≤ K ∧ i = .int .i64 k ∧ s = .int .i64 D ∧ D ≤ 64 ∧ Hid (D = wid f k)) (fun _ i => K - (intOf i).toNat)
  case atStart => exact ⟨0, 0, Nat.zero_le _, rfl, rfl, by omega, Hid.mk rfl⟩
  case round =>
    obtain ⟨k, D, hk, rfl, rfl, hD64, hD⟩ := hrel
    by_cases hkK : k < K
    · obtain ⟨g, o, rfl, hc⟩ := HH.out.1.cellP (w' := w) k hkK
      have hck := hc (Below.refl _ _)
      clear hc
      have hwid := ref_Width (f k) (HH.out.2 k hkK) w
      have hb64 := bitLen_le64 (f k) (HH.out.2 k hkK)
      obtain ⟨B, hB⟩ : ∃ B, Lib.bitLen (f k) = B := ⟨_, rfl⟩
      rw [hB] at hwid hb64
      have HB : Hid _ := hB
      clear hB
      go_wp2_with (go_at_call 63; refine hwid.mono ?_; rintro e w1 ⟨rfl, hw⟩; subst w1)
      refine ⟨⟨k + 1, max D B, by omega, by go_num, by go_num, by omega, Hid.mk ?_⟩, by simp [intOf]; omega⟩
      rw [wid, HB.out, ← hD.out]
    · obtain rfl : k = K := by omega
      go_wp2
      go_ret
      rw [← hD.out]
      exact ⟨rfl, rfl⟩

set_option maxRecDepth 2000000 in
theorem refp_words (v : Value) (K d : Nat) (f : Nat → Nat) (w : World) (h : Rd w v K f) (hf : ∀ j, j < K → f j < 2 ^ d) (hd : d ≤ 64) (hK : K ≤ 2000000) :
    Calls Tryd.prog 30 #[.int .i64 d, v] w fun e w' => ∃ v', e = .returned v' ∧ w'.ownsRow w.heap.size 77 1 v' (nw (d * K)) (u64s (wd (packV d f K)) (nw (d * K))) ∧ More w w' := by
  obtain ⟨ao, cap, rfl⟩ := h.shape
  have HH : Hid _ := And.intro h (And.intro hf hd)
  clear h hf
  go_enter Tryd.func30, Tryd.ntmps30
  go_wp2
  go_loopw [5, 6] (fun r i wr => ∃ k : Nat, k ≤ K ∧ i = .int .i64 k ∧ Hid (wr.ownsRow w.heap.size 4 1 r (d * k) (bools (packV d f k) (d * k)) ∧ Below w.heap.size w wr)) (fun _ i _ => K - (intOf i).toNat)
  case atStart => exact ⟨0, Nat.zero_le _, rfl, Hid.mk ⟨World.ownsRow_nil _ _ _ _, Below.refl _ _⟩⟩
  case round =>
    obtain ⟨k, hk, rfl, hown⟩ := hrel
    have hV := packV_lt d f k fun j hj => HH.out.2.1 j (by omega)
    have hnl : d * k ≤ 128000000 := by
      have := Nat.mul_le_mul HH.out.2.2 (show k ≤ 2000000 by omega)
      omega
    by_cases hkK : k < K
    · obtain ⟨g, o, rfl, hc⟩ := HH.out.1.cellP (w' := wr) k hkK
      have hck := hc hown.out.2
      clear hc
      have hx : f k < 18446744073709551616 := Nat.lt_of_lt_of_le (HH.out.2.1 k hkK) (pow_le64 HH.out.2.2)
      obtain ⟨ao1, cap1, hs⟩ := shape_of hown.out.1
      have hadd := ref_add w.heap.size (d * k) (packV d f k) (f k) d _ wr hown.out.1 hV hx (by omega) HH.out.2.2
      subst hs
      clear hV hx hnl
      go_wp2_with (go_at_call 47; refine hadd.mono ?_; rintro e w1 ⟨v1, rfl, hown1, hm1⟩; have H1 := Hid.mk (And.intro (own_lower hown1 hown.out.2.size) (More.trans hown.out.2 hm1)); clear hown1 hm1; obtain ⟨ao2, cap2, hs2⟩ := shape_of H1.out.1; subst hs2)
      refine ⟨⟨k + 1, by omega, by go_num, Hid.mk H1.out⟩, by simp [intOf]; omega⟩
    · obtain rfl : k = K := by omega
      obtain ⟨ao1, cap1, hs⟩ := shape_of hown.out.1
      have hwo := ref_words _ (d * k) (packV d f k) wr (brd_of_own hown.out.1) hV (by omega)
      subst hs
      clear hV hnl
      go_wp2_with (go_at_call 21; refine hwo.mono ?_; rintro e w1 ⟨v1, rfl, hown1, hm1⟩; have H1 := Hid.mk (And.intro (own_lower hown1 hown.out.2.size) (More.trans hown.out.2 hm1)); clear hown1 hm1; obtain ⟨ao2, cap2, hs2⟩ := shape_of H1.out.1; subst hs2)
      go_ret
      exact ⟨_, rfl, H1.out⟩

end Go.Proofs.YtbfolfacppbalaaDoor
