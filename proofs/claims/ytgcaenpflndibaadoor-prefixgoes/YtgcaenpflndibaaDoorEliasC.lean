/-
  elias: the high part.
-/
import Derived.Test.YtgcaenpflndibaaDoorEliasB
namespace Go.Proofs.YtgcaenpflndibaaDoor
open Go.RowKit

theorem cat_nought (V n : Nat) : cat V n 0 = V := by simp [cat]
theorem cat_far (V n m r p : Nat) (h : n + m + r = p) : cat V (n + m) (2 ^ r) = cat V p 1 := by
  subst h; unfold cat; rw [← Nat.pow_add, Nat.mul_one]

/-- A nought more, 64 times. -/
theorem add_noughts (base b V n : Nat) (w : World) (h : RowAt w base b V n) (hsz : base ≤ w.heap.size) (hn : n + 64 ≤ 1099511627776) :
    Calls Tryd.prog 39 #[.pointer (some ⟨b, 0, none⟩), .int .u64 0, .int .i64 64] w fun e w' => e = .returned (.int .i64 0) ∧ RowAt w' base b V (n + 64) ∧ Below base w w' := by
  have := row_add base b V n 0 64 w h hsz (by decide) hn
  have e0 : addErr 0 64 = 0 := addErr_le 0 64 (by decide) (by decide)
  rw [addV, addN, if_pos e0, if_pos e0, e0, cat_nought] at this
  exact this.mono fun e w' ⟨a, b, c⟩ => ⟨a, b, c.below⟩
/-- r noughts and a one. -/
theorem add_one (base b V n r : Nat) (w : World) (h : RowAt w base b V n) (hsz : base ≤ w.heap.size) (hn : n + 64 ≤ 1099511627776) (hr : r < 64) :
    Calls Tryd.prog 39 #[.pointer (some ⟨b, 0, none⟩), .int .u64 ((2 : Int) ^ r), .int .i64 ((r : Int) + 1)] w fun e w' => e = .returned (.int .i64 0) ∧ RowAt w' base b (cat V n (2 ^ r)) (n + (r + 1)) ∧ Below base w w' := by
  have hx : 2 ^ r < 2 ^ 64 := Nat.pow_lt_pow_right (by decide) hr
  have := row_add base b V n (2 ^ r) ((r + 1 : Nat) : Int) w h hsz hx hn
  have e0 : addErr (2 ^ r) ((r + 1 : Nat) : Int) = 0 := addErr_le (2 ^ r) (r + 1) (by omega) (Lib.bitLen_le _ _ (by omega) (Nat.pow_lt_pow_right (by decide) (by omega)))
  rw [addV, addN, if_pos e0, if_pos e0, e0, Int.toNat_natCast, Int.natCast_pow] at this
  exact this.mono fun e w' ⟨a, b, c⟩ => ⟨a, b, c.below⟩

theorem hN_top {f : Nat → Nat} {n : Nat} (h : Climbs f n) (d : Nat) {k : Nat} (hk : k < n) : hp f d k + 1 ≤ hN f d n := hp_end h d hk

set_option maxHeartbeats 800000 in
set_option maxRecDepth 1000000 in
theorem el_highPart (v : Value) (K d : Nat) (f : Nat → Nat) (w : World) (h : ZRd w v K (fun j => (f j : Int))) (hC : Climbs f K) (hd : d ≤ 60) (hK : K ≤ 1000) (hTop : hN f d K + 64 ≤ 1099511627776) :
    Calls Tryd.prog 23 #[v, .int .i64 d] w fun e w' => ∃ b, e = .returned (.pointer (some ⟨b, 0, none⟩)) ∧ RowAt w' w.heap.size b (hV f d K) (hN f d K) ∧ More w w' := by
  obtain ⟨ao, cap, rfl⟩ := h.shape
  have hrow0 : RowAt (w.alloc (.cells #[.slice none 0 0, .int .i64 0] 80)) w.heap.size w.heap.size 0 0 :=
    ⟨Nat.le_refl _, by decide, by decide, _, heap_alloc_new _ _, World.ownsRow_nil _ _ _ _⟩
  have HR0 := Hid.mk (And.intro hrow0 ((Below.refl w.heap.size w).alloc (Nat.le_refl _) (.cells #[.slice none 0 0, .int .i64 0] 80)))
  have HH := Hid.mk (And.intro h (And.intro hC hTop))
  clear hrow0 h hC hTop
  go_enter Tryd.func23, Tryd.ntmps23
  go_wp2_with (go_at_call 38; refine (new_row _).mono ?_; rintro e w' ⟨rfl, hw⟩; subst w')
  go_loopw [6, 13] (fun a i wr => ∃ k A : Nat, k ≤ K ∧ i = .int .i64 k ∧ a = .int .i64 A ∧ A ≤ 1099511627776 ∧ Hid (A + k = hN f d k ∧ RowAt wr w.heap.size w.heap.size (hV f d k) (hN f d k) ∧ Below w.heap.size w wr)) (fun _ i _ => K - (intOf i).toNat)
  case atStart => exact ⟨0, 0, Nat.zero_le _, rfl, rfl, by decide, Hid.mk ⟨rfl, HR0.out.1, HR0.out.2⟩⟩
  case round =>
    obtain ⟨k, A, hk, rfl, rfl, hA, HR⟩ := hrel
    by_cases hkK : k < K
    · obtain ⟨g, o, rfl, hc⟩ := HH.out.1.cell (w' := wr) k hkK
      have hck := hc HR.out.2.2
      have hfk := HH.out.2.1.top k hkK
      obtain ⟨H, hH⟩ : ∃ H, f k / 2 ^ d = H := ⟨_, rfl⟩
      have hHf : H ≤ f k := by rw [← hH]; exact Nat.div_le_self _ _
      have hsh : ((f k : Nat) : Int) / 2 ^ d = (H : Int) := by rw [← hH, Int.natCast_ediv, Int.natCast_pow]; rfl
      have hle := hN_le HH.out.2.1 d hkK
      have htop := hN_top HH.out.2.1 d hkK
      have hpe : hp f d k = H + k := by unfold hp; rw [hH]
      have hAH : A ≤ H := by have := HR.out.1; omega
      obtain ⟨M, hM⟩ : ∃ M, H = A + M := ⟨H - A, by omega⟩
      have e1 : (H : Int) - (A : Int) = M := by omega
      have e2 : (A : Int) + (M : Int) = H := by omega
      have HM := Hid.mk (And.intro hH (And.intro hle (And.intro htop (And.intro hpe hM))))
      have hM2 : M ≤ 1099511627776 := by omega
      have hHb : H ≤ 1099511627776 := by omega
      clear hc hH hle htop hpe hM
      go_wp2
      go_loopw [9] (fun c wi => ∃ R j : Nat, c = .int .i64 R ∧ R ≤ M ∧ Hid (R + 64 * j = M ∧ RowAt wi w.heap.size w.heap.size (hV f d k) (hN f d k + 64 * j) ∧ Below w.heap.size w wi)) (fun c _ => (intOf c).toNat)
      case atStart => exact ⟨M, 0, rfl, Nat.le_refl _, Hid.mk ⟨rfl, HR.out.2.1, HR.out.2.2⟩⟩
      case round =>
        obtain ⟨R, j, rfl, hRM, HI⟩ := hrel
        have hnl : hN f d k + 64 * j + 64 ≤ 1099511627776 := by have h1 := HI.out.1; have h2 := HM.out; have h3 := HH.out.2.2; have h4 := HR.out.1; omega
        by_cases hR : 64 ≤ R
        · have hadd := add_noughts w.heap.size w.heap.size _ _ wr HI.out.2.1 HI.out.2.2.size hnl
          clear hnl
          go_wp2_with (go_at_call 39; refine hadd.mono ?_; rintro e w1 ⟨rfl, hrow, hkeep⟩; have H1 := Hid.mk (And.intro hrow (HI.out.2.2.trans hkeep)); clear hrow hkeep)
          refine ⟨⟨R - 64, j + 1, by go_num, by omega, Hid.mk ⟨by have := HI.out.1; omega, ?_, H1.out.2⟩⟩, by simp [intOf]; omega⟩
          rw [show hN f d k + 64 * (j + 1) = hN f d k + 64 * j + 64 by omega]
          exact H1.out.1
        · have hadd := add_one w.heap.size w.heap.size _ _ R wr HI.out.2.1 HI.out.2.2.size hnl (by omega)
          have hpw : IntKind.u64.wrap ((2 : Int) ^ R) = (2 : Int) ^ R := by
            have h1 : (2 : Nat) ^ R < 2 ^ 64 := Nat.pow_lt_pow_right (by decide) (by omega)
            have h2 : ((2 ^ R : Nat) : Int) = (2 : Int) ^ R := by rw [Int.natCast_pow]; rfl
            rw [← h2]
            generalize (2 : Nat) ^ R = P at h1 ⊢
            rw [IntKind.wrap_u64]; omega
          clear hnl
          go_wp2_with (go_at_call 39; refine hadd.mono ?_; rintro e w1 ⟨rfl, hrow, hkeep⟩; have H1 := Hid.mk (And.intro hrow (HI.out.2.2.trans hkeep)); clear hrow hkeep)
          refine ⟨⟨k + 1, H, by omega, by go_num, rfl, hHb, Hid.mk ⟨?_, ?_, H1.out.2⟩⟩, by simp [intOf]; omega⟩
          · rw [hN, HM.out.2.2.2.1]; omega
          · have hpp : hN f d k + 64 * j + R = hp f d k := by have h1 := HI.out.1; have h2 := HM.out; have h4 := HR.out.1; omega
            have := H1.out.1
            rw [cat_far _ _ _ _ _ hpp, ← Nat.add_assoc, hpp] at this
            exact this
    · obtain rfl : k = K := by omega
      clear hkK hk
      go_wp2
      go_ret
      exact ⟨_, rfl, HR.out.2.1, HR.out.2.2⟩

end Go.Proofs.YtgcaenpflndibaaDoor
