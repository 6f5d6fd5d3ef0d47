/-
  PrefixUnits walked.
-/
import Derived.Test.YtgcaenpflndibaaPrefixLawA
namespace Go.Proofs.Ytgcaenpflndibaa
open Go.RowKit

theorem sm_small (f : Nat → Nat) (k : Nat) (h : ∀ j, j < k → f j ≤ 49) : sm f k ≤ 49 * k := by
  induction k with
  | zero => simp [sm]
  | succ k ih => have := ih (fun j hj => h j (by omega)); have := h k (by omega); rw [sm]; omega

theorem units_big (v : Value) (K : Nat) (g : Nat → Int) (w : World) (h : ZRd w v K g) (hK : K ≤ 9223372036854775807) (hb : 20 < K) :
    Calls Try.prog 5 #[v] w fun e w' => e = .returned (.bool true) ∧ Below w.heap.size w w' := by
  obtain ⟨ao, cap, rfl⟩ := h.shape
  clear h
  go_enter Try.func5, Try.ntmps5
  go_wp2_with (go_at_call 6; refine (px_live _).mono ?_; rintro e w1 ⟨rfl, hm⟩; have H1 := Hid.mk hm; clear hm)
  go_ret
  exact ⟨rfl, H1.out⟩

set_option maxHeartbeats 1600000 in
set_option maxRecDepth 1000000 in
theorem units_small (v : Value) (K : Nat) (g : Nat → Int) (w : World) (h : ZRd w v K g) (hb : K ≤ 20) :
    Calls Try.prog 5 #[v] w fun e w' => e = .returned (.bool true) ∧ Below w.heap.size w w' := by
  obtain ⟨ao, cap, rfl⟩ := h.shape
  have HH := Hid.mk h
  clear h
  go_enter Try.func5, Try.ntmps5
  go_wp2
  go_loop [3] (fun i => ∃ k : Nat, k ≤ K ∧ i = .int .i64 k ∧ Hid (∀ j, j < k → 0 ≤ g j ∧ g j ≤ 49)) (fun i => K - (intOf i).toNat)
  case atStart => exact ⟨0, Nat.zero_le _, rfl, Hid.mk (fun j hj => by omega)⟩
  case round =>
    obtain ⟨k, hk, rfl, HR⟩ := hrel
    by_cases hkK : k < K
    · obtain ⟨b, o, rfl, hc⟩ := HH.out.cell (w' := w) k hkK
      have hck := hc (Below.refl _ _)
      clear hc
      obtain ⟨x, hx⟩ : ∃ x, g k = x := ⟨_, rfl⟩
      rw [hx] at hck
      have HX := Hid.mk hx
      clear hx
      by_cases h1 : x < 0 ∨ 49 < x
      · rcases (show x < 0 ∨ (¬ x < 0 ∧ 49 < x) by omega) with h2 | ⟨h2, h3⟩
        all_goals
          clear h1
          go_wp2_with (go_at_call 6; refine (px_live _).mono ?_; rintro e w1 ⟨rfl, hm⟩; have H1 := Hid.mk hm; clear hm)
          go_ret
          exact ⟨rfl, H1.out⟩
      · have h2 : ¬ x < 0 := by omega
        have h3 : ¬ 49 < x := by omega
        have he : Hid (∀ j, j < k + 1 → 0 ≤ g j ∧ g j ≤ 49) := Hid.mk (fun j hj => by
          rcases (show j < k ∨ j = k by omega) with e | rfl
          · exact HR.out j e
          · rw [HX.out]; omega)
        clear h1
        go_wp2
        exact ⟨⟨k + 1, by omega, by go_num, he⟩, by simp [intOf]; omega⟩
    · obtain rfl : k = K := by omega
      have hz : ZRd w (.slice ao k cap) k (fun j => (((g j).toNat : Nat) : Int)) := HH.out.congr fun j hj => by have := HR.out j hj; omega
      have hf : ∀ j, j < k → (g j).toNat ≤ 49 := fun j hj => by have := HR.out j hj; omega
      obtain ⟨f, hfe⟩ : ∃ f, (fun j => (g j).toNat) = f := ⟨_, rfl⟩
      have hf' : ∀ j, j < k → f j ≤ 49 := fun j hj => by rw [← hfe]; exact hf j hj
      have hz' : ZRd w (.slice ao k cap) k (fun j => (f j : Int)) := by rw [← hfe]; exact hz
      have hs := sm_small f k hf'
      have hnew := px_new _ k f w hz' (by omega) (by omega)
      have HG := Hid.mk (And.intro hz' (And.intro hf' hs))
      clear hz hf hfe hf' hz' hs HH HR hk hkK
      go_wp2_with (go_at_call 7; refine hnew.mono ?_; rintro e w1 ⟨s, rfl, hp, hm⟩; have H1 := Hid.mk (And.intro hp hm); clear hp hm hnew)
      go_loopw [7, 6] (fun i t wr => ∃ c y : Nat, c ≤ k ∧ i = .int .i64 c ∧ t = .int .i64 y ∧ y ≤ 980 ∧ Hid (y = sm f c ∧ More w1 wr)) (fun i _ _ => k - (intOf i).toNat)
      case atStart => exact ⟨0, 0, Nat.zero_le _, rfl, rfl, by omega, Hid.mk ⟨rfl, Below.refl _ _⟩⟩
      case round =>
        obtain ⟨c, y, hc, rfl, rfl, hy, HS⟩ := hrel
        by_cases hck : c < k
        · obtain ⟨b, o, rfl, _⟩ := HG.out.1.cell (w' := w) c hck
          have hcell : ∀ w', More w w' → w'.cell? ⟨b, o + c, none⟩ = some (.int .i64 (f c : Nat)) := fun w' hm => by
            obtain ⟨b', o', he, hc'⟩ := HG.out.1.cell (w' := w') c hck
            simp at he
            obtain ⟨rfl, rfl⟩ := he
            exact hc' hm
          have hx49 := HG.out.2.1 c hck
          have hyx : y + f c ≤ 980 := by
            have h1 := sm_mono f (show c + 1 ≤ k by omega)
            rw [sm, ← HS.out.1] at h1
            have := HG.out.2.2
            omega
          have hwh : ∀ j, j < f c → whereZ f k ((y + j : Nat) : Int) = c := fun j hj => where_hit (by have := HG.out.2.2; omega) c (y + j) hck (by rw [← HS.out.1]; omega) (by rw [sm, ← HS.out.1]; omega)
          have hsc : sm f (c + 1) = y + f c := by rw [sm, ← HS.out.1]
          obtain ⟨x, hx⟩ : ∃ x, f c = x := ⟨_, rfl⟩
          rw [hx] at hx49 hyx hwh hsc
          have HC := Hid.mk (And.intro hcell (And.intro hwh (And.intro hsc hx)))
          clear hcell hwh hsc hx
          go_wp2
          go_loopw [8, 6] (fun i t wi => ∃ j z : Nat, j ≤ x ∧ i = .int .i64 j ∧ t = .int .i64 z ∧ z = y + j ∧ Hid (More w1 wi)) (fun i _ _ => x - (intOf i).toNat)
          case atStart => exact ⟨0, y, Nat.zero_le _, rfl, rfl, rfl, Hid.mk HS.out.2⟩
          case round =>
            obtain ⟨j, z, hj, rfl, rfl, hzy, HI⟩ := hrel
            have hce := HC.out.1 wr (More.trans H1.out.2 HI.out)
            rw [HC.out.2.2.2] at hce
            by_cases hjx : j < x
            · have hwz := px_where _ s f k (z : Int) wr (H1.out.1.more HI.out)
              rw [show whereZ f k (z : Int) = c by rw [hzy]; exact HC.out.2.1 j hjx] at hwz
              have hz980 : z ≤ 980 := by omega
              have HZ := Hid.mk hzy
              clear hzy
              go_wp2_with (go_at_call 17; refine hwz.mono ?_; rintro e w3 ⟨rfl, hm⟩; have H3 := Hid.mk (More.trans HI.out hm); clear hm hwz)
              exact ⟨⟨j + 1, z + 1, by omega, by go_num, by go_num, by have := HZ.out; omega, H3⟩, by simp [intOf]; omega⟩
            · obtain rfl : j = x := by omega
              have HZ := Hid.mk (And.intro hzy (show z ≤ 980 by omega))
              clear hzy
              go_wp2
              exact ⟨⟨c + 1, z, by omega, by go_num, rfl, HZ.out.2, Hid.mk ⟨by rw [HC.out.2.2.1]; exact HZ.out.1, HI.out⟩⟩, by simp [intOf]; omega⟩
        · obtain rfl : c = k := by omega
          have hwz := px_where _ s f c (y : Int) wr (H1.out.1.more HS.out.2)
          rw [where_miss f c y (.inr (by rw [HS.out.1]; omega))] at hwz
          have hto := fun w' (hm : More wr w') => px_total _ s f c w' (H1.out.1.more (More.trans HS.out.2 hm))
          rw [← HS.out.1] at hto
          clear hc hck
          go_wp2_with (first
            | (go_at_call 17; refine hwz.mono ?_; rintro e w3 ⟨rfl, hm⟩; have H3 := Hid.mk hm; clear hm hwz)
            | (go_at_call 11; refine (hto _ H3.out).mono ?_; rintro e w4 ⟨rfl, hm⟩; have H4 := Hid.mk (More.trans H3.out hm); clear hm hto)
            | (go_at_call 6; refine (px_live _).mono ?_; rintro e w5 ⟨rfl, hm⟩; have H5 := Hid.mk (More.trans H4.out hm); clear hm))
          go_ret
          exact ⟨rfl, More.trans H1.out.2 (More.trans HS.out.2 H5.out)⟩

theorem prefixUnits (v : Value) (K : Nat) (g : Nat → Int) (w : World) (h : ZRd w v K g) (hK : K ≤ 9223372036854775807) :
    Calls Try.prog 5 #[v] w fun e w' => e = .returned (.bool true) ∧ Below w.heap.size w w' := by
  by_cases hb : 20 < K
  · exact units_big v K g w h hK hb
  · exact units_small v K g w h (by omega)

end Go.Proofs.Ytgcaenpflndibaa
