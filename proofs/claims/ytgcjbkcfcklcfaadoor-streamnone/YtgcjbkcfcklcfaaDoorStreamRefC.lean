/-
  The document's Write.
-/
import Derived.Test.YtgcjbkcfcklcfaaDoorStreamRefB
import Derived.Test.YtgcjbkcfcklcfaaDoorBuilt
namespace Go.Proofs.YtgcjbkcfcklcfaaDoor
open Go.RowKit

/-- What Write tells, of a kind. -/
def Wrote (base n V x : Nat) (kd N : Int) (w : World) (e : Ending) (w' : World) : Prop :=
  ∃ v', e = .returned (.tuple #[v', .int .i64 (cdE kd x N)]) ∧ w'.ownsRow base 4 1 v' (wrN kd n x N) (bools (wrV kd V n x N) (wrN kd n x N)) ∧ More w w'
theorem Wrote.bad {base n V x : Nat} {kd N E : Int} {w : World} {v : Value} (hown : w.ownsRow base 4 1 v n (bools V n)) (hE : cdE kd x N = E) (h0 : E ≠ 0) : Wrote base n V x kd N w (.returned (.tuple #[v, .int .i64 E])) w := by
  have e2 : wrV kd V n x N = V := by simp [wrV, hE, h0]
  have e3 : wrN kd n x N = n := by simp [wrN, hE, h0]
  exact ⟨v, by rw [hE], by rw [e2, e3]; exact hown, Below.refl _ _⟩
theorem Wrote.good {base n V x R l : Nat} {kd N : Int} {w w' : World} {v : Value} (hE : cdE kd x N = 0) (hR : cdV kd x N = R) (hl : cdL kd x N = l) (hb : base ≤ w'.heap.size) (hown : w'.ownsRow w'.heap.size 4 1 v (n + l) (bools (cat V n R) (n + l)) ∨ w'.ownsRow base 4 1 v (n + l) (bools (cat V n R) (n + l))) (hm : More w w') : Wrote base n V x kd N w (.returned (.tuple #[v, .int .i64 0])) w' := by
  have e2 : wrV kd V n x N = cat V n R := by simp [wrV, hE, hR]
  have e3 : wrN kd n x N = n + l := by simp [wrN, hE, hl]
  refine ⟨v, by rw [hE], ?_, hm⟩
  rw [e2, e3]
  rcases hown with h | h
  · exact own_lower h hb
  · exact h

set_option maxHeartbeats 800000 in
set_option maxRecDepth 1000000 in
theorem ref_write0 (base n V x : Nat) (N : Int) (v : Value) (w : World) (hown : w.ownsRow base 4 1 v n (bools V n)) (hb : base ≤ w.heap.size) (hV : V < 2 ^ n) (hx : x < 18446744073709551616) (hn : n ≤ 1099511600000) :
    Calls Tryd.prog 8 #[v, .int .i64 0, .int .u64 x, .int .i64 N] w (Wrote base n V x 0 N w) := by
  have hnot : ∀ (x : Bool) (w : World), (Op.unary .not (.bool x)).run Tryd.prog w = .ok (.bool (!x)) w := fun _ _ => rfl
  by_cases h1 : N < 0 ∨ 64 < N
  · have hE : cdE 0 x N = 1 := by simp [cdE, addErr, h1]
    have HH := Hid.mk (Wrote.bad hown hE (by decide))
    obtain ⟨ao, cap, rfl⟩ := shape_of hown
    clear hown hE
    rcases h1 with h1 | h1
    all_goals
      go_enter Tryd.func8, Tryd.ntmps8
      go_wp2
      go_ret2
      exact HH.out
  · obtain ⟨k, rfl⟩ := Int.eq_ofNat_of_zero_le (show 0 ≤ N by omega)
    have hk : k ≤ 64 := by omega
    have hmay := fun w => may x k hx w
    by_cases h2 : addErr x k = 0
    · have hra := ref_add base n V x k v w hown hV hx (by omega) hk
      have hE : cdE 0 x (k : Int) = 0 := by simp [cdE, h2]
      have hR : cdV 0 x (k : Int) = x := by simp [cdV]
      have hL : cdL 0 x (k : Int) = k := by simp [cdL]
      have HH := Hid.mk (And.intro hE (And.intro hR hL))
      rw [show decide (addErr x k = 0) = true by simp [h2]] at hmay
      obtain ⟨ao, cap, rfl⟩ := shape_of hown
      clear hown hE h1 h2 hR hL
      go_enter Tryd.func8, Tryd.ntmps8
      go_wp2_with (first
        | (go_at_call 29; refine (hmay _).mono ?_; rintro e w' ⟨rfl, hw'⟩; subst w')
        | (go_at_call 30; refine hra.mono ?_; rintro e w1 ⟨v', rfl, ho, hm⟩; have H1 := Hid.mk (And.intro ho hm); clear ho hm hra))
      go_ret2
      exact Wrote.good HH.out.1 HH.out.2.1 HH.out.2.2 (Nat.le_trans hb H1.out.2.size) (.inr (own_lower H1.out.1 hb)) H1.out.2
    · have h8 : addErr x k = 8 := by
        unfold addErr at h2 ⊢
        rw [if_neg (by omega)] at h2 ⊢
        split at h2
        · rename_i h3; rw [if_pos h3]
        · exact absurd rfl h2
      have hE : cdE 0 x (k : Int) = 8 := by simp [cdE, h8]
      have HH := Hid.mk (Wrote.bad hown hE (by decide))
      rw [show decide (addErr x k = 0) = false by simp [h8]] at hmay
      obtain ⟨ao, cap, rfl⟩ := shape_of hown
      clear hown hE h1 h2 h8
      go_enter Tryd.func8, Tryd.ntmps8
      go_wp2_with (go_at_call 29; refine (hmay _).mono ?_; rintro e w' ⟨rfl, hw'⟩; subst w')
      go_ret2
      exact HH.out

set_option maxHeartbeats 800000 in
set_option maxRecDepth 1000000 in
theorem ref_write1 (base n V x : Nat) (N : Int) (v : Value) (w : World) (hown : w.ownsRow base 4 1 v n (bools V n)) (hb : base ≤ w.heap.size) (hV : V < 2 ^ n) (hn : n ≤ 1099511600000) :
    Calls Tryd.prog 8 #[v, .int .i64 1, .int .u64 x, .int .i64 N] w (Wrote base n V x 1 N w) := by
  by_cases h1 : N < 0 ∨ 4096 < N
  · have hE : cdE 1 x N = 8 := by simp [cdE, h1]
    have HH := Hid.mk (Wrote.bad hown hE (by decide))
    obtain ⟨ao, cap, rfl⟩ := shape_of hown
    clear hown hE
    rcases h1 with h1 | h1
    all_goals
      go_enter Tryd.func8, Tryd.ntmps8
      go_wp2
      go_ret2
      exact HH.out
  · obtain ⟨q, rfl⟩ := Int.eq_ofNat_of_zero_le (show 0 ≤ N by omega)
    have hq : q ≤ 4096 := by omega
    have hra := ref_unary base n V q v w hown hV hn hq
    have hE : cdE 1 x (q : Int) = 0 := by simp [cdE]; omega
    have HH := Hid.mk (And.intro hE (And.intro (show cdV 1 x (q : Int) = 2 ^ q by simp [cdV]) (show cdL 1 x (q : Int) = q + 1 by simp [cdL])))
    obtain ⟨ao, cap, rfl⟩ := shape_of hown
    clear hown hE h1
    go_enter Tryd.func8, Tryd.ntmps8
    go_wp2_with (go_at_call 31; refine hra.mono ?_; rintro e w1 ⟨v', rfl, ho, hm⟩; have H1 := Hid.mk (And.intro ho hm); clear ho hm hra)
    go_ret2
    exact Wrote.good HH.out.1 HH.out.2.1 HH.out.2.2 (Nat.le_trans hb H1.out.2.size) (.inr (own_lower H1.out.1 hb)) H1.out.2

theorem unary_fit {V n q : Nat} (hV : V < 2 ^ n) : cat V n (2 ^ q) < 2 ^ (n + (q + 1)) := cat_lt hV (Nat.pow_lt_pow_right (by decide) (by omega))

set_option maxHeartbeats 800000 in
set_option maxRecDepth 1000000 in
theorem ref_write2 (base n V x : Nat) (N : Int) (v : Value) (w : World) (hown : w.ownsRow base 4 1 v n (bools V n)) (hb : base ≤ w.heap.size) (hV : V < 2 ^ n) (hx : x < 18446744073709551616) (hn : n ≤ 1099511600000) :
    Calls Tryd.prog 8 #[v, .int .i64 2, .int .u64 x, .int .i64 N] w (Wrote base n V x 2 N w) := by
  by_cases h1 : x = 0
  · subst h1
    have hE : cdE 2 0 N = 8 := by simp [cdE]
    have HH := Hid.mk (Wrote.bad hown hE (by decide))
    obtain ⟨ao, cap, rfl⟩ := shape_of hown
    clear hown hE
    go_enter Tryd.func8, Tryd.ntmps8
    go_wp2
    go_ret2
    exact HH.out
  · obtain ⟨t1, _, _, t4⟩ := top_bounds x hx h1
    have hE : cdE 2 x N = 0 := by simp [cdE, h1]
    have HH := Hid.mk (And.intro hE (And.intro (show cdV 2 x N = cat (2 ^ top x) (top x + 1) (x % 2 ^ top x) by simp [cdV]) (show cdL 2 x N = top x + 1 + top x by simp [cdL])))
    have hw : ∀ w, Calls Tryd.prog 32 #[.int .u64 x] w fun e w' => e = .returned (.int .i64 ((top x : Int) + 1)) ∧ w' = w := fun w => by
      have := ref_Width x hx w
      rw [t4] at this
      simpa using this
    have hmod := fun (U m : Nat) (hU : U < 2 ^ m) => (show bools (cat U m x) (m + top x) = bools (cat U m (x % 2 ^ top x)) (m + top x) from bools_congr fun i hi => by
      rw [cat_bit _ hU, cat_bit _ hU]
      split
      · rfl
      · rw [Nat.testBit_mod_two_pow, show decide (i - m < top x) = true by simp; omega, Bool.true_and])
    generalize top x = q at *
    have hra := ref_unary base n V q v w hown hV hn (by omega)
    have hb0 : (((x : Nat) : Int) == 0) = false := by simp; omega
    have HM := Hid.mk (And.intro hmod hV)
    have hadd := fun v' w1 (ho : World.ownsRow w1 w.heap.size 4 1 v' (n + (q + 1)) (bools (cat V n (2 ^ q)) (n + (q + 1)))) => ref_add w.heap.size (n + (q + 1)) (cat V n (2 ^ q)) x q v' w1 ho (unary_fit hV) hx (by omega) (by omega)
    obtain ⟨ao, cap, rfl⟩ := shape_of hown
    clear hown hE h1 hmod hV
    go_enter Tryd.func8, Tryd.ntmps8
    go_wp2_with (first
      | (go_at_call 32; refine (hw _).mono ?_; rintro e w' ⟨rfl, hw'⟩; subst w')
      | (go_at_call 31; refine hra.mono ?_; rintro e w1 ⟨v', rfl, ho, hm⟩; have H1 := Hid.mk (And.intro ho hm); clear ho hm hra)
      | (go_at_call 30; refine (hadd _ _ H1.out.1).mono ?_; rintro e w2 ⟨v2, rfl, ho, hm⟩; have H2 := Hid.mk (And.intro ho (More.trans H1.out.2 hm)); clear ho hm))
    go_ret2
    have ho := H2.out.1
    rw [HM.out.1 _ _ (unary_fit HM.out.2), cat_cat, show n + (q + 1) + q = n + (q + 1 + q) by omega] at ho
    exact Wrote.good HH.out.1 HH.out.2.1 HH.out.2.2 (Nat.le_trans hb H2.out.2.size) (.inr (own_lower ho (Nat.le_trans hb H1.out.2.size))) H2.out.2

set_option maxHeartbeats 800000 in
set_option maxRecDepth 1000000 in
theorem ref_write3 (base n V x : Nat) (kd N : Int) (v : Value) (w : World) (hown : w.ownsRow base 4 1 v n (bools V n)) (hb : base ≤ w.heap.size) (hV : V < 2 ^ n) (hx : x < 18446744073709551616) (hn : n ≤ 1099511600000) (hkd : kd ≠ 0 ∧ kd ≠ 1 ∧ kd ≠ 2) :
    Calls Tryd.prog 8 #[v, .int .i64 kd, .int .u64 x, .int .i64 N] w (Wrote base n V x kd N w) := by
  obtain ⟨k0, k1, k2⟩ := hkd
  have b0 : (kd == 0) = false := by simp [k0]
  have b1 : (kd == 1) = false := by simp [k1]
  have b2 : (kd == 2) = false := by simp [k2]
  by_cases h1 : N < 0 ∨ 63 < N
  · have hE : cdE kd x N = 1 := by simp [cdE, k0, k1, k2, h1]
    have HH := Hid.mk (Wrote.bad hown hE (by decide))
    obtain ⟨ao, cap, rfl⟩ := shape_of hown
    clear hown hE k0 k1 k2
    rcases h1 with h1 | h1
    all_goals
      go_enter Tryd.func8, Tryd.ntmps8
      go_wp2
      go_ret2
      exact HH.out
  · obtain ⟨k, rfl⟩ := Int.eq_ofNat_of_zero_le (show 0 ≤ N by omega)
    have hk : k ≤ 63 := by omega
    have hh := fun w => ref_half x k w hx (by omega)
    by_cases h2 : 4096 < x / 2 ^ k
    · have hE : cdE kd x (k : Int) = 8 := by simp [cdE, k0, k1, k2, h2]; omega
      have HH := Hid.mk (Wrote.bad hown hE (by decide))
      obtain ⟨ao, cap, rfl⟩ := shape_of hown
      generalize x / 2 ^ k = q at *
      clear hown hE h1 k0 k1 k2
      go_enter Tryd.func8, Tryd.ntmps8
      go_wp2_with (go_at_call 33; refine (hh _).mono ?_; rintro e w' ⟨rfl, hw'⟩; subst w')
      go_ret2
      exact HH.out
    · have hE : cdE kd x (k : Int) = 0 := by simp [cdE, k0, k1, k2, h2]; omega
      have HH := Hid.mk (And.intro hE (And.intro (show cdV kd x (k : Int) = cat (2 ^ (x / 2 ^ k)) (x / 2 ^ k + 1) (x % 2 ^ k) by simp [cdV, k0, k1, k2]) (show cdL kd x (k : Int) = x / 2 ^ k + 1 + k by simp [cdL, k0, k1, k2])))
      have hq : x / 2 ^ k ≤ 4096 := by omega
      generalize x / 2 ^ k = q at *
      have hwr : IntKind.i64.wrap (q : Int) = (q : Int) := by rw [IntKind.wrap_i64]; omega
      have hmod := fun (U m : Nat) (hU : U < 2 ^ m) => (show bools (cat U m x) (m + k) = bools (cat U m (x % 2 ^ k)) (m + k) from bools_congr fun i hi => by
        rw [cat_bit _ hU, cat_bit _ hU]
        split
        · rfl
        · rw [Nat.testBit_mod_two_pow, show decide (i - m < k) = true by simp; omega, Bool.true_and])
      have hra := ref_unary base n V q v w hown hV hn hq
      have HM := Hid.mk (And.intro hmod hV)
      have hadd := fun v' w1 (ho : World.ownsRow w1 w.heap.size 4 1 v' (n + (q + 1)) (bools (cat V n (2 ^ q)) (n + (q + 1)))) => ref_add w.heap.size (n + (q + 1)) (cat V n (2 ^ q)) x k v' w1 ho (unary_fit hV) hx (by omega) (by omega)
      obtain ⟨ao, cap, rfl⟩ := shape_of hown
      clear hown hE h1 h2 hmod hV k0 k1 k2
      go_enter Tryd.func8, Tryd.ntmps8
      go_wp2_with (first
        | (go_at_call 33; refine (hh _).mono ?_; rintro e w' ⟨rfl, hw'⟩; subst w')
        | (go_at_call 31; refine hra.mono ?_; rintro e w1 ⟨v', rfl, ho, hm⟩; have H1 := Hid.mk (And.intro ho hm); clear ho hm hra)
        | (go_at_call 30; refine (hadd _ _ H1.out.1).mono ?_; rintro e w2 ⟨v2, rfl, ho, hm⟩; have H2 := Hid.mk (And.intro ho (More.trans H1.out.2 hm)); clear ho hm))
      go_ret2
      have ho := H2.out.1
      rw [HM.out.1 _ _ (unary_fit HM.out.2), cat_cat, show n + (q + 1) + k = n + (q + 1 + k) by omega] at ho
      exact Wrote.good HH.out.1 HH.out.2.1 HH.out.2.2 (Nat.le_trans hb H2.out.2.size) (.inr (own_lower ho (Nat.le_trans hb H1.out.2.size))) H2.out.2

theorem ref_write (base n V x : Nat) (kd N : Int) (v : Value) (w : World) (hown : w.ownsRow base 4 1 v n (bools V n)) (hb : base ≤ w.heap.size) (hV : V < 2 ^ n) (hx : x < 18446744073709551616) (hn : n ≤ 1099511600000) :
    Calls Tryd.prog 8 #[v, .int .i64 kd, .int .u64 x, .int .i64 N] w (Wrote base n V x kd N w) := by
  by_cases k0 : kd = 0
  · subst k0; exact ref_write0 base n V x N v w hown hb hV hx hn
  by_cases k1 : kd = 1
  · subst k1; exact ref_write1 base n V x N v w hown hb hV hn
  by_cases k2 : kd = 2
  · subst k2; exact ref_write2 base n V x N v w hown hb hV hx hn
  exact ref_write3 base n V x kd N v w hown hb hV hx hn ⟨k0, k1, k2⟩

end Go.Proofs.YtgcjbkcfcklcfaaDoor
