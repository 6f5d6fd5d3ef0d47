/-
  stream's Writer: Fixed, Unary, Gamma, Rice, Row; copies of rows.
-/
import Derived.Test.YtgcjbkcfcklcfaaDoorStreamLay
namespace Go.Proofs.YtgcjbkcfcklcfaaDoor
open Go.RowKit

/-- What follows of a row that was added to behind a step. -/
theorem WrRow.add {w w' : World} {base b rb V n V' n' : Nat} (h : WrRow w base b rb V n) (r : RowAt w' base rb V' n') (k : KeepsR base w w') : WrAt w' base b V' n' :=
  ⟨h.lo, Nat.le_trans h.sz k.below.size, _, k.other _ _ _ _ (by decide) (by decide) h.cell, .inr ⟨rb, rfl, r⟩⟩

set_option maxRecDepth 1000000 in
theorem wr_fixed (base b V n x : Nat) (N : Int) (w : World) (h : WrAt w base b V n) (hx : x < 18446744073709551616) (hn : n + 5000 ≤ 1099511627776) :
    Calls Tryd.prog 34 #[.pointer (some ⟨b, 0, none⟩), .int .u64 x, .int .i64 N] w fun e w' => e = .returned (.int .i64 (cdE 0 x N)) ∧ WrAt w' base b (wrV 0 V n x N) (wrN 0 n x N) ∧ Keeps base w w' := by
  have e1 : cdE 0 x N = addErr x N := by simp [cdE]
  have e2 : wrV 0 V n x N = addV V n x N := by simp [wrV, addV, e1, cdV]
  have e3 : wrN 0 n x N = addN n x N := by simp [wrN, addN, e1, cdL]
  rw [e1, e2, e3]
  have hs := wr_step base b V n w h
  clear h e1 e2 e3
  go_enter Tryd.func34, Tryd.ntmps34
  go_wp2_with (first
    | (go_at_call 48; refine hs.mono ?_; rintro e w1 ⟨rb, rfl, hr, hk⟩; have H1 := Hid.mk (And.intro hr hk); clear hr hk hs)
    | (go_at_call 23; refine (row_add_o base rb V n x N w1 H1.out.1.row H1.out.1.sz hx (by omega)).mono ?_; rintro e w2 ⟨rfl, hr, hk⟩; have H2 := Hid.mk (And.intro (H1.out.1.add hr (KeepsR.of H1.out.1.row hk)) (H1.out.2.trans hk.toKeeps)); clear hr hk))
  go_ret
  exact ⟨rfl, H2.out⟩

set_option maxRecDepth 1000000 in
theorem wr_unary (base b V n x : Nat) (N : Int) (w : World) (h : WrAt w base b V n) (hn : n + 5000 ≤ 1099511627776) :
    Calls Tryd.prog 35 #[.pointer (some ⟨b, 0, none⟩), .int .i64 N] w fun e w' => e = .returned (.int .i64 (cdE 1 x N)) ∧ WrAt w' base b (wrV 1 V n x N) (wrN 1 n x N) ∧ Keeps base w w' := by
  by_cases h1 : N < 0 ∨ 4096 < N
  · have e1 : cdE 1 x N = 8 := by simp [cdE, h1]
    have e2 : wrV 1 V n x N = V := by simp [wrV, e1]
    have e3 : wrN 1 n x N = n := by simp [wrN, e1]
    rw [e1, e2, e3]
    have HH := Hid.mk h
    clear h e1 e2 e3
    rcases h1 with h1 | h1
    all_goals
      go_enter Tryd.func35, Tryd.ntmps35
      go_wp2
      go_ret
      exact ⟨rfl, HH.out, Keeps.refl _ _⟩
  · obtain ⟨q, rfl⟩ := Int.eq_ofNat_of_zero_le (show 0 ≤ N by omega)
    have hq : q ≤ 4096 := by omega
    have e1 : cdE 1 x (q : Int) = 0 := by simp [cdE]; omega
    have e2 : wrV 1 V n x (q : Int) = cat V n (cat (2 ^ q) (q + 1) (0 % 2 ^ 0)) := by simp [wrV, e1, cdV, cat_zero]
    have e3 : wrN 1 n x (q : Int) = n + (q + 1 + 0) := by simp [wrN, e1, cdL]
    rw [e1, e2, e3]
    have hs := wr_step base b V n w h
    clear h e1 e2 e3 h1
    go_enter Tryd.func35, Tryd.ntmps35
    go_wp2_with (first
      | (go_at_call 48; refine hs.mono ?_; rintro e w1 ⟨rb, rfl, hr, hk⟩; have H1 := Hid.mk (And.intro hr hk); clear hr hk hs)
      | (go_at_call 47; refine (lay base rb V n q 0 0 w1 H1.out.1.row H1.out.1.sz hq (by decide) (by decide) hn).mono ?_; rintro e w2 ⟨rfl, hr, hk⟩; have H2 := Hid.mk (And.intro (H1.out.1.add hr hk) (H1.out.2.trans hk.keeps)); clear hr hk))
    go_ret
    exact ⟨rfl, H2.out⟩

set_option maxRecDepth 1000000 in
theorem wr_gamma (base b V n x : Nat) (N : Int) (w : World) (h : WrAt w base b V n) (hx : x < 18446744073709551616) (hn : n + 5000 ≤ 1099511627776) :
    Calls Tryd.prog 24 #[.pointer (some ⟨b, 0, none⟩), .int .u64 x] w fun e w' => e = .returned (.int .i64 (cdE 2 x N)) ∧ WrAt w' base b (wrV 2 V n x N) (wrN 2 n x N) ∧ Keeps base w w' := by
  by_cases h1 : x = 0
  · have e1 : cdE 2 x N = 8 := by simp [cdE, h1]
    have e2 : wrV 2 V n x N = V := by simp [wrV, e1]
    have e3 : wrN 2 n x N = n := by simp [wrN, e1]
    rw [e1, e2, e3]
    have HH := Hid.mk h
    clear h e1 e2 e3
    subst h1
    go_enter Tryd.func24, Tryd.ntmps24
    go_wp2
    go_ret
    exact ⟨rfl, HH.out, Keeps.refl _ _⟩
  · obtain ⟨t1, _, _, t4⟩ := top_bounds x hx h1
    have e1 : cdE 2 x N = 0 := by simp [cdE, h1]
    have e2 : wrV 2 V n x N = cat V n (cat (2 ^ top x) (top x + 1) (x % 2 ^ top x)) := by simp [wrV, e1, cdV]
    have e3 : wrN 2 n x N = n + (top x + 1 + top x) := by simp [wrN, e1, cdL]
    rw [e1, e2, e3]
    have hs := wr_step base b V n w h
    have hb : ((x : Int) == 0) = false := by simp; omega
    have hw : ∀ w, Calls Tryd.prog 45 #[.int .u64 x] w fun e w' => e = .returned (.int .i64 ((top x : Int) + 1)) ∧ w' = w := fun w => by
      have := lane_Width x hx w
      rw [t4] at this
      simpa using this
    have hl := fun rb w1 (h : RowAt w1 base rb V n) (hz : base ≤ w1.heap.size) => lay base rb V n (top x) x (top x) w1 h hz (by omega) hx t1 hn
    generalize top x = q at *
    clear h e1 e2 e3 h1
    go_enter Tryd.func24, Tryd.ntmps24
    go_wp2_with (first
      | (go_at_call 48; refine hs.mono ?_; rintro e w1 ⟨rb, rfl, hr, hk⟩; have H1 := Hid.mk (And.intro hr hk); clear hr hk hs)
      | (go_at_call 45; refine (hw _).mono ?_; rintro e w' ⟨rfl, hw'⟩; subst w')
      | (go_at_call 47; refine (hl rb w1 H1.out.1.row H1.out.1.sz).mono ?_; rintro e w2 ⟨rfl, hr, hk⟩; have H2 := Hid.mk (And.intro (H1.out.1.add hr hk) (H1.out.2.trans hk.keeps)); clear hr hk))
    go_ret
    exact ⟨rfl, H2.out⟩

end Go.Proofs.YtgcjbkcfcklcfaaDoor
