/-
  stream's lay: a unary, and then some lowest bits, behind a row.
-/
import Derived.Test.YtgcjbkcfcklcfaaDoorStreamWrite
namespace Go.Proofs.YtgcjbkcfcklcfaaDoor
open Go.RowKit

theorem bits_le (x N : Nat) (hx : x < 18446744073709551616) (h : x < 2 ^ N) : Lib.bitLen x ≤ N := by
  by_cases h0 : x = 0
  · subst h0; rw [show Lib.bitLen 0 = 0 from rfl]; omega
  · obtain ⟨_, t2, _, t4⟩ := top_bounds x hx h0
    by_cases hl : Lib.bitLen x ≤ N
    · exact hl
    · have : 2 ^ N ≤ 2 ^ top x := Nat.pow_le_pow_right (by decide) (by omega)
      omega

/-- Bits that may be added. -/
theorem add_ok (base rb V n x N : Nat) (w : World) (h : RowAt w base rb V n) (hsz : base ≤ w.heap.size) (hx : x < 18446744073709551616) (hN : N ≤ 64) (hlt : x < 2 ^ N) (hn : n + 64 ≤ 1099511627776) :
    Calls Tryd.prog 23 #[.pointer (some ⟨rb, 0, none⟩), .int .u64 x, .int .i64 N] w fun e w' => e = .returned (.int .i64 0) ∧ RowAt w' base rb (cat V n x) (n + N) ∧ KeepsR base w w' := by
  have he : addErr x N = 0 := by
    have := bits_le x N hx hlt
    unfold addErr
    rw [if_neg (by omega), if_neg (by simp; omega)]
  refine (row_add_o base rb V n x N w h hsz hx hn).mono fun e w' ⟨a, r, k⟩ => ?_
  rw [he] at a
  simp only [addV, addN, he, if_true, Int.toNat_natCast] at r
  exact ⟨a, r, KeepsR.of h k⟩

set_option maxHeartbeats 800000 in
set_option maxRecDepth 1000000 in
theorem lay (base rb V n q x k : Nat) (w : World) (h : RowAt w base rb V n) (hsz : base ≤ w.heap.size) (hq : q ≤ 4096) (hx : x < 18446744073709551616) (hk : k ≤ 63) (hn : n + 5000 ≤ 1099511627776) :
    Calls Tryd.prog 47 #[.func (.func 23) #[.pointer (some ⟨rb, 0, none⟩)] #[], .int .i64 q, .int .u64 x, .int .i64 k] w fun e w' => e = .returned (.tuple #[]) ∧ RowAt w' base rb (cat V n (cat (2 ^ q) (q + 1) (x % 2 ^ k))) (n + (q + 1 + k)) ∧ KeepsR base w w' := by
  have HH := Hid.mk h
  clear h
  go_enter Tryd.func47, Tryd.ntmps47
  go_wp2
  go_loopw [1] (fun i wr => ∃ j r : Nat, i = .int .i64 r ∧ r ≤ 4096 ∧ Hid (64 * j + r = q) ∧ Hid (RowAt wr base rb V (n + 64 * j) ∧ KeepsR base w wr)) (fun i _ => (intOf i).toNat)
  case atStart => exact ⟨0, q, rfl, hq, Hid.mk (by omega), Hid.mk ⟨HH.out, KeepsR.refl _ _⟩⟩
  case round =>
    obtain ⟨j, r, rfl, hr0, hj, HR⟩ := hrel
    by_cases hr : 64 ≤ r
    · have ha := add_ok base rb V (n + 64 * j) 0 64 wr HR.out.1 (Nat.le_trans hsz HR.out.2.below.size) (by decide) (by decide) (by decide) (by have := hj.out; omega)
      clear HH
      go_wp2_with (go_at_call 23; refine ha.mono ?_; rintro e w1 ⟨rfl, hr1, hk1⟩; have H1 := Hid.mk (And.intro hr1 hk1); clear hr1 hk1)
      refine ⟨⟨j + 1, r - 64, by go_num, by omega, Hid.mk (by have := hj.out; omega), Hid.mk ⟨?_, HR.out.2.trans H1.out.2⟩⟩, by simp [intOf]; omega⟩
      have := H1.out.1
      rwa [cat_zero, show n + 64 * j + 64 = n + 64 * (j + 1) by omega] at this
    · have hr' : r < 64 := by omega
      have h64 : 2 ^ r < 18446744073709551616 := by
        have h1 := pow_lt64 hr'
        rw [Nat.pow_succ] at h1
        have := Nat.two_pow_pos r
        omega
      have ha := add_ok base rb V (n + 64 * j) (2 ^ r) (r + 1) wr HR.out.1 (Nat.le_trans hsz HR.out.2.below.size) h64 (by omega) (Nat.pow_lt_pow_right (by decide) (by omega)) (by have := hj.out; omega)
      rw [show ((2 ^ r : Nat) : Int) = (2 : Int) ^ r by simp, show ((r + 1 : Nat) : Int) = (r : Int) + 1 by omega, show cat V (n + 64 * j) (2 ^ r) = cat V n (2 ^ q) by
        unfold cat; rw [← hj.out, ← Nat.pow_add, ← Nat.pow_add, Nat.add_assoc], show n + 64 * j + (r + 1) = n + (q + 1) by have := hj.out; omega] at ha
      have e1 : IntKind.u64.wrap (2 ^ r) = (2 : Int) ^ r := by
        have e : (2 ^ r : Int) = ((2 ^ r : Nat) : Int) := by simp
        rw [e, wrapU _ (Int.natCast_nonneg _) (Int.ofNat_lt.2 h64)]
      have hmk : ∀ w, Calls Tryd.prog 62 #[.int .i64 k] w fun e w' => e = .returned (.int .u64 (2 ^ k - 1 : Nat)) ∧ w' = w := fun w => by
        have := mask k w
        rwa [show min 64 (Int.toNat (k : Int)) = k by simp; omega] at this
      have hand := and_mask x k hx (by omega)
      have hlow := mod_lt64 x k (by omega)
      have hlow2 : x % 2 ^ k < 2 ^ k := Nat.mod_lt _ (Nat.two_pow_pos _)
      generalize hM : x % 2 ^ k = M at *
      clear HH
      go_wp2_with (first
        | (go_at_call 23; refine ha.mono ?_; clear ha; rintro e w1 ⟨rfl, hr1, hk1⟩; have H1 := Hid.mk (And.intro hr1 (HR.out.2.trans hk1)); clear hr1 hk1)
        | (go_at_call 62; refine (hmk _).mono ?_; rintro e w' ⟨rfl, hw'⟩; subst w')
        | (go_at_call 23; refine (add_ok base rb _ (n + (q + 1)) M k w1 H1.out.1 (Nat.le_trans hsz H1.out.2.below.size) hlow (by omega) hlow2 (by omega)).mono ?_; rintro e w2 ⟨rfl, hr2, hk2⟩; have H2 := Hid.mk (And.intro hr2 (H1.out.2.trans hk2)); clear hr2 hk2))
      go_end0
      have h2 := H2.out.1
      rw [cat_cat, show n + (q + 1) + k = n + (q + 1 + k) by omega, ← hM] at h2
      exact ⟨rfl, h2, H2.out.2⟩

end Go.Proofs.YtgcjbkcfcklcfaaDoor
