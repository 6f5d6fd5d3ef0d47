/-
  stream's Writer: Rice, Row; copies of rows.
-/
import Derived.Test.YtgcjbkcfcklcfaaDoorStreamPut
namespace Go.Proofs.YtgcjbkcfcklcfaaDoor
open Go.RowKit

set_option maxHeartbeats 800000 in
set_option maxRecDepth 1000000 in
theorem wr_rice (base b V n x : Nat) (N kd : Int) (w : World) (h : WrAt w base b V n) (hx : x < 18446744073709551616) (hn : n + 5000 ≤ 1099511627776) (hkd : kd ≠ 0 ∧ kd ≠ 1 ∧ kd ≠ 2) :
    Calls Tryd.prog 25 #[.pointer (some ⟨b, 0, none⟩), .int .u64 x, .int .i64 N] w fun e w' => e = .returned (.int .i64 (cdE kd x N)) ∧ WrAt w' base b (wrV kd V n x N) (wrN kd n x N) ∧ Keeps base w w' := by
  obtain ⟨k0, k1, k2⟩ := hkd
  by_cases h1 : N < 0 ∨ 63 < N
  · have e1 : cdE kd x N = 1 := by simp [cdE, k0, k1, k2, h1]
    have e2 : wrV kd V n x N = V := by simp [wrV, e1]
    have e3 : wrN kd n x N = n := by simp [wrN, e1]
    rw [e1, e2, e3]
    have HH := Hid.mk h
    clear h e1 e2 e3 k0 k1 k2
    rcases h1 with h1 | h1
    all_goals
      go_enter Tryd.func25, Tryd.ntmps25
      go_wp2
      go_ret
      exact ⟨rfl, HH.out, Keeps.refl _ _⟩
  · obtain ⟨k, rfl⟩ := Int.eq_ofNat_of_zero_le (show 0 ≤ N by omega)
    have hk : k ≤ 63 := by omega
    have hd : (x : Int) / 2 ^ k = ((x / 2 ^ k : Nat) : Int) := by simp
    have hqx : x / 2 ^ k < 18446744073709551616 := Nat.lt_of_le_of_lt (Nat.div_le_self _ _) hx
    by_cases h2 : 4096 < x / 2 ^ k
    · have e1 : cdE kd x (k : Int) = 8 := by simp [cdE, k0, k1, k2, h2]; omega
      have e2 : wrV kd V n x (k : Int) = V := by simp [wrV, e1]
      have e3 : wrN kd n x (k : Int) = n := by simp [wrN, e1]
      rw [e1, e2, e3]
      have HH := Hid.mk h
      generalize x / 2 ^ k = q at *
      clear h e1 e2 e3 k0 k1 k2 h1
      go_enter Tryd.func25, Tryd.ntmps25
      go_wp2
      go_ret
      exact ⟨rfl, HH.out, Keeps.refl _ _⟩
    · have e1 : cdE kd x (k : Int) = 0 := by simp [cdE, k0, k1, k2, h2]; omega
      have e2 : wrV kd V n x (k : Int) = cat V n (cat (2 ^ (x / 2 ^ k)) (x / 2 ^ k + 1) (x % 2 ^ k)) := by simp [wrV, e1, cdV, k0, k1, k2]
      have e3 : wrN kd n x (k : Int) = n + (x / 2 ^ k + 1 + k) := by simp [wrN, e1, cdL, k0, k1, k2]
      rw [e1, e2, e3]
      have hs := fun (m : Nat) => wr_step base b V n (w.drewN m) (h.more (More.drewN _ _))
      have hl := fun rb w1 (h : RowAt w1 base rb V n) (hz : base ≤ w1.heap.size) => lay base rb V n (x / 2 ^ k) x k w1 h hz (by omega) hx hk hn
      have hq : x / 2 ^ k ≤ 4096 := by omega
      have hwr : IntKind.i64.wrap ((x / 2 ^ k : Nat) : Int) = ((x / 2 ^ k : Nat) : Int) := by rw [IntKind.wrap_i64]; omega
      generalize x / 2 ^ k = q at *
      clear h e1 e2 e3 k0 k1 k2 h1 h2
      go_enter Tryd.func25, Tryd.ntmps25
      go_wp2_with fail
      go_region_with (first
        | (go_at_call 48; refine (hs _).mono ?_; rintro e w1 ⟨rb, rfl, hr, hk1⟩; have H1 := Hid.mk (And.intro hr hk1); clear hr hk1 hs)
        | (go_at_call 47; refine (hl rb _ H1.out.1.row H1.out.1.sz).mono ?_; rintro e w2 ⟨rfl, hr, hk1⟩; have H2 := Hid.mk (And.intro (H1.out.1.add hr hk1) (H1.out.2.trans hk1.keeps)); clear hr hk1))
      all_goals
        go_wp2
        go_ret
        exact ⟨rfl, H2.out.1, ((Keeps.refl base w).drewN _).trans H2.out.2⟩

end Go.Proofs.YtgcjbkcfcklcfaaDoor
