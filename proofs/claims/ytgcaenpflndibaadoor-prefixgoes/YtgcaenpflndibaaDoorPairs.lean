/-
  The ones of a word, gone over: lane.Pairs hands over each one, the lowest first, with how many are below it, as long as it is told to go on.
-/
import Derived.Test.YtgcaenpflndibaaDoorTz
import Derived.Test.YtgcaenpflndibaaDoorRefA
import Derived.Test.YtgcaenpflndibaaDoorRangeOwn
import Derived.Lib.TrailingZeros
import Derived.RangeFuncNested
import Derived.RangeFuncBound
import Derived.RangeFuncCalls
import Derived.RangeFuncLeaves
import Derived.Shelf.Abstract
import Derived.Shelf.RegionOpen
import Derived.OwnWalkIn
import Derived.TacticsInMore
import Derived.LoopNIn
import Derived.LoopIn
namespace Go.Proofs.YtgcaenpflndibaaDoor
open Go.RowKit Go.Shelf

/-! ### The plain side: the ones of a word, one by one -/
/-- The first k ones of X: how many are below each, and its number. -/
def allP (X k : Nat) : List (Int × Int) := (List.range k).map fun (j : Nat) => ((j : Int), sel X j 64)
theorem allP_succ (X k : Nat) : allP X (k + 1) = allP X k ++ [((k : Int), sel X k 64)] := by
  simp [allP, List.range_succ]
theorem allP_len (X k : Nat) : (allP X k).length = k := by simp [allP]

theorem and_pred_odd (m : Nat) : (2 * m + 1) &&& (2 * m) = 2 * m := by
  have e1 : ((2 * m + 1) &&& (2 * m)) % 2 ^ 1 = 0 := by
    rw [Nat.and_mod_two_pow, show 2 * m % 2 ^ 1 = 0 by omega]; simp
  have e2 : ((2 * m + 1) &&& (2 * m)) / 2 ^ 1 = m := by
    rw [Nat.and_div_two_pow, show (2 * m + 1) / 2 ^ 1 = m by omega, show 2 * m / 2 ^ 1 = m by omega]; simp
  omega

theorem and_pred (q m : Nat) : (2 ^ q * (2 * m + 1)) &&& (2 ^ q * (2 * m + 1) - 1) = m * 2 ^ (q + 1) := by
  have hp := Nat.two_pow_pos q
  have e0 : 2 ^ q * (2 * m + 1) - 1 = 2 ^ q * (2 * m) + (2 ^ q - 1) := by rw [Nat.mul_add]; omega
  have e1 : ((2 ^ q * (2 * m + 1)) &&& (2 ^ q * (2 * m + 1) - 1)) % 2 ^ q = 0 := by
    rw [Nat.and_mod_two_pow, Nat.mul_mod_right]; simp
  have e2 : ((2 ^ q * (2 * m + 1)) &&& (2 ^ q * (2 * m + 1) - 1)) / 2 ^ q = 2 * m := by
    rw [Nat.and_div_two_pow, Nat.mul_div_cancel_left _ hp, e0, Nat.mul_add_div hp, Nat.div_eq_of_lt (show 2 ^ q - 1 < 2 ^ q by omega), Nat.add_zero]
    exact and_pred_odd m
  have e3 := Nat.div_add_mod ((2 ^ q * (2 * m + 1)) &&& (2 ^ q * (2 * m + 1) - 1)) (2 ^ q)
  rw [e1, e2, Nat.add_zero] at e3
  rw [← e3, Nat.pow_succ, Nat.mul_comm 2 m, ← Nat.mul_assoc, Nat.mul_comm (2 ^ q) m, Nat.mul_assoc]

theorem rk_multiple (d m : Nat) : rk (2 ^ d * m) d = 0 := by
  rw [← rk_mod (2 ^ d * m) d d (Nat.le_refl _), Nat.mul_mod_right, rk_zero]

/-- One round of the going over. -/
theorem next_one (X p k R : Nat) (hX : X < 18446744073709551616) (hR : X / 2 ^ p * 2 ^ p = R) (hk : rk X p = k) (h0 : R ≠ 0) :
    ∃ q m : Nat, q < 64 ∧ R = 2 ^ q * (2 * m + 1) ∧ sel X k 64 = q ∧ rk X (q + 1) = k + 1 ∧ R &&& (R - 1) = X / 2 ^ (q + 1) * 2 ^ (q + 1) ∧ k + 1 ≤ rk X 64 := by
  have hle : R ≤ X := by rw [← hR]; exact Nat.div_mul_le_self X (2 ^ p)
  obtain ⟨m, hm, hq⟩ := Lib.ctzFrom_spec 64 R (by omega) (by omega)
  generalize Lib.ctzFrom 64 R = q at *
  have hpq : p ≤ q := by
    refine Nat.le_of_not_lt fun hlt => ?_
    have e : 2 ^ p = 2 ^ q * (2 * 2 ^ (p - q - 1)) := by
      rw [← Nat.mul_assoc, Nat.mul_comm (2 ^ q) 2, ← Nat.pow_succ', ← Nat.pow_add]
      congr 1; omega
    have e2 : 2 ^ q * (X / 2 ^ p * (2 * 2 ^ (p - q - 1))) = 2 ^ q * (2 * m + 1) := by
      rw [← hm, Nat.mul_left_comm, ← e, hR]
    have e3 := Nat.eq_of_mul_eq_mul_left (Nat.two_pow_pos q) e2
    rw [Nat.mul_left_comm] at e3
    omega
  obtain ⟨d, rfl⟩ : ∃ d, q = p + d := ⟨q - p, by omega⟩
  have e4 : X / 2 ^ p = 2 ^ d * (2 * m + 1) := by
    have : X / 2 ^ p * 2 ^ p = (2 ^ d * (2 * m + 1)) * 2 ^ p := by rw [hR, hm, Nat.pow_add, Nat.mul_assoc, Nat.mul_comm]
    exact Nat.eq_of_mul_eq_mul_right (Nat.two_pow_pos p) this
  have e5 : X / 2 ^ (p + d) = 2 * m + 1 := by
    rw [Nat.pow_add, ← Nat.div_div_eq_div_mul, e4, Nat.mul_div_cancel_left _ (Nat.two_pow_pos d)]
  have e6 : rk X (p + d) = k := by rw [rk_add, e4, rk_multiple, hk, Nat.add_zero]
  have e7 : rk X (p + d + 1) = k + 1 := by rw [rk, e6, e5]; omega
  refine ⟨p + d, m, hq, hm, sel_of X k 64 (p + d) hq (by rw [e5]; omega) (by rw [e6]), e7, ?_, ?_⟩
  · rw [hm, and_pred, Nat.pow_succ 2 (p + d), ← Nat.div_div_eq_div_mul, e5]
    congr 1; omega
  · rw [← e7]; exact rk_mono X (by omega)

theorem no_more (X p k : Nat) (hp : p ≤ 64) (hR : X / 2 ^ p * 2 ^ p = 0) (hk : rk X p = k) : k = rk X 64 := by
  have : X / 2 ^ p = 0 := by
    rcases Nat.mul_eq_zero.1 hR with h | h
    · exact h
    · have := Nat.two_pow_pos p; omega
  rw [show 64 = p + (64 - p) by omega, rk_add, this, rk_zero, hk, Nat.add_zero]

abbrev encP (p : Int × Int) : Array Value := #[.int .i64 p.1, .int .i64 p.2]

theorem and_less (R : Nat) (hR : R < 18446744073709551616) (h0 : ¬ R = 0) : bits .and .u64 (R : Int) (IntKind.u64.wrap ((R : Int) - 1)) = ((R &&& (R - 1) : Nat) : Int) := by
  rw [wrapU _ (by omega) (by omega), show (R : Int) - 1 = ((R - 1 : Nat) : Int) by omega]
  exact and_nat R (R - 1) hR (by omega)

set_option maxHeartbeats 1000000 in
/-- lane.Pairs hands over the ones of its word, the lowest first, as long as it is told to go on; it looks at nothing but its own word and the library's table. -/
theorem pairs1_in (n : Nat) (hn : 1 ≤ n) (l Bn n₀ X : Nat) (hX : X < 18446744073709551616) (h0n : 0 < n₀) (J Jx : List (Int × Int) → World → Prop)
    (hY : ∀ pre x W, (∃ k, k ≤ rk X 64 ∧ pre ++ [x] = allP X k) → J pre W → pre.length < rk X 64 → YieldAt Fence.wide (n - 1) Tryd.prog l (encP x) W fun e W' =>
      (e = .returned (.bool true) ∧ J (pre ++ [x]) W' ∧ Below n₀ W W') ∨ (e = .returned (.bool false) ∧ Jx (pre ++ [x]) W'))
    (W : World) (hBn : W.cell? ⟨Bn, 0, none⟩ = some (.int .u64 X)) (hT : TabIn W) (h0 : J [] W) :
    CallsIn Fence.wide n Tryd.prog 57 #[.func (.yield l) #[] #[], .pointer (some ⟨Bn, 0, none⟩)] W fun e W' => (∃ v, e = .returned v) ∧
      ((∃ ys, ys = allP X (rk X 64) ∧ J ys W') ∨ (∃ pre, (∃ k, k ≤ rk X 64 ∧ pre = allP X k) ∧ Jx pre W')) := by
  refine callsIn_of_wp Tryd.func57 rfl trivial ?_ rfl
  simp only [Tryd.ntmps57, List.size_toArray, List.length_cons, List.length_nil, Nat.reduceAdd, Nat.reduceSub, Array.replicate_succ, Array.replicate_zero, List.push_toArray, List.append_toArray, List.nil_append, List.cons_append]
  gi_wp2
  gi_loopw [3, 4] (fun kk rr wr => ∃ k R : Nat, kk = .int .i64 k ∧ rr = .int .u64 R ∧ R < 18446744073709551616 ∧ k ≤ 64 ∧ (∃ p, p ≤ 64 ∧ X / 2 ^ p * 2 ^ p = R ∧ rk X p = k) ∧ TabIn wr ∧ J (allP X k) wr)
    (fun kk _ _ => 64 - (intOf kk).toNat)
  case atStart =>
    exact ⟨0, X, rfl, rfl, hX, by omega, ⟨0, by omega, by simp, rfl⟩, hT, h0⟩
  case round =>
    obtain ⟨k, R, rfl, rfl, hR, hk, hp, hTr, hJs⟩ := hrel
    by_cases hz : R = 0
    · subst hz
      obtain ⟨p, hp1, hp2, hp3⟩ := hp
      have e := no_more X p k hp1 hp2 hp3
      gi_wp2
      go_end0
      exact ⟨⟨_, rfl⟩, .inl ⟨_, by rw [e], hJs⟩⟩
    · obtain ⟨p, hp1, hp2, hp3⟩ := hp
      obtain ⟨q, m, hq, hm, hs, hr1, hand, hr2⟩ := next_one X p k R hX hp2 hp3 hz
      have hr64 := rk_le X 64
      obtain ⟨fn, tmps, assign, body, hy, hRd⟩ := hY (allP X k) ((k : Int), sel X k 64) wr ⟨k + 1, hr2, (allP_succ X k).symm⟩ hJs (by rw [allP_len]; omega)
      have ktz := tz q m (by omega) hq wr hTr
      rw [← hm] at ktz
      dsimp only [encP] at hy
      rw [hs] at hy
      have hne : ((R : Int) == 0) = false := by simp; omega
      have HA : Hid (R &&& (R - 1) = X / 2 ^ (q + 1) * 2 ^ (q + 1)) := hand
      have HR : Hid (rk X (q + 1) = k + 1) := hr1
      rw [← allP_succ] at hRd
      clear hm hs hand hr1 hp1 hp2 hp3 hz
      gi_wp2_with (refine ⟨trivial, ?_⟩; gi_at_call 58; refine (callsIn_wide.2 ktz).mono ?_; rintro e w' ⟨rfl, rfl⟩)
      refine hRd.mono ?_
      clear hRd ktz hy
      rintro e W3 (⟨rfl, hJ3, hk3⟩ | ⟨rfl, hJx3⟩)
      · have hT3 : TabIn W3 := hTr.below hk3 h0n
        gi_wp2
        go_roundw
        case rel =>
          refine ⟨k + 1, R &&& (R - 1), by go_num, ?_, Nat.lt_of_le_of_lt Nat.and_le_left hR, by omega, ⟨q + 1, by omega, HA.out.symm, HR.out⟩, hT3, hJ3⟩
          rw [and_less R hR (by simpa using hne)]
        case measure => simp [intOf]; omega
      · gi_wp2
        refine bodyPost_ret (results_none rfl _ _ _) rfl ?_
        exact ⟨⟨_, rfl⟩, .inr ⟨_, ⟨k + 1, hr2, rfl⟩, hJx3⟩⟩

/-- lane.Pairs as a going over that may be left early. -/
theorem pairs_own (n : Nat) (hn : 1 ≤ n) (Bn lo X : Nat) (hX : X < 18446744073709551616) (h0n : 0 < lo) (w : World) (hB : Bn < w.heap.size) (hBn : w.cell? ⟨Bn, 0, none⟩ = some (.int .u64 X)) (hT : TabIn w) :
    SeqOwn Fence.wide n Tryd.prog 57 #[.pointer (some ⟨Bn, 0, none⟩)] encP lo (fun _ => True) (fun xs => xs = allP X (rk X 64)) (fun pre => ∃ k, k ≤ rk X 64 ∧ pre = allP X k) (rk X 64) w := by
  intro l J Jx W hW hlo _ _ _ hY h0
  refine (pairs1_in n hn l Bn lo X hX h0n (fun pre W1 => J pre W1 ∧ W.heap.size ≤ W1.heap.size) Jx (fun pre x W1 hSp hJ hlen => ?_) W ((hW.cell (p := ⟨Bn, 0, none⟩) hB).trans hBn) (More.tab hT hW) ⟨h0, Nat.le_refl _⟩).mono ?_
  · obtain ⟨fn, tmps, assign, body, hy, hRd⟩ := hY pre x W1 hSp hJ.1 hJ.2 hlen
    refine ⟨fn, tmps, assign, body, hy, hRd.mono ?_⟩
    rintro e W' (⟨he, h1, h2⟩ | ⟨he, h1, _⟩)
    · exact .inl ⟨he, ⟨h1, Nat.le_trans hJ.2 h2.size⟩, h2.below (Nat.le_trans hlo hJ.2)⟩
    · exact .inr ⟨he, h1⟩
  · rintro e W' ⟨he, (⟨ys, hy, hJ⟩ | h)⟩
    · exact ⟨he, .inl ⟨ys, hy, hJ.1⟩⟩
    · exact ⟨he, .inr h⟩

theorem pairs_call (n X : Nat) (w : World) : CallsIn Fence.wide n Tryd.prog 42 #[.int .u64 X] w fun e w' => e = .returned (.func (.func 57) #[] #[.pointer (some ⟨w.heap.size, 0, none⟩)]) ∧ w' = w.alloc (.cells #[.int .u64 X] 57) := by
  refine callsIn_of_wp Tryd.func42 rfl trivial ?_ rfl
  simp only [Tryd.ntmps42, List.size_toArray, List.length_cons, List.length_nil, Nat.reduceAdd, Nat.reduceSub, Array.replicate_succ, Array.replicate_zero, List.push_toArray, List.append_toArray, List.nil_append, List.cons_append]
  gi_wp2
  go_ret
  exact ⟨rfl, rfl⟩

end Go.Proofs.YtgcaenpflndibaaDoor
