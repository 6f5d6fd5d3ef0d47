/-
  The ones of a word, gone over: lane.Pairs hands over each one, the lowest first, with how many are below it, as long as it is told to go on.
  seldir's From: plain facts on the ones of a row from any one on, word by word.
  A range over a function whose rounds lay blocks of their own and turn them in later rounds: which blocks are the caller's is told by a set, which grows by all that a round lays. The iterator turns blocks alone that are not in it; a round turns blocks of it alone.
-/
import Derived.Test.YtbjgbigalfhnjaaGreatDoorSet03
import Derived.Test.YtbjgbigalfhnjaaGreatDoorSet05
import Derived.Test.YtbjgbigalfhnjaaGreatDoorSet18
import Derived.Lib.TrailingZeros
import Derived.RangeFuncNested
import Derived.RangeFuncBound
import Derived.RangeFuncCalls
import Derived.RangeFuncLeaves
import Derived.Shelf.Abstract
import Derived.Shelf.RegionOpen
import Derived.OwnWalkIn
import Derived.TacticsInMore
import Derived.LoopNIn
import Derived.LoopIn
namespace Go.Proofs.YtbjgbigalfhnjaaGreatDoor
open Go.RowKit Go.Shelf

/-! ### The plain side: the ones of a word, one by one -/
/-- The first k ones of X: how many are below each, and its number. -/
def allP (X k : Nat) : List (Int × Int) := (List.range k).map fun (j : Nat) => ((j : Int), sel X j 64)
theorem allP_succ (X k : Nat) : allP X (k + 1) = allP X k ++ [((k : Int), sel X k 64)] := by
  simp [allP, List.range_succ]
theorem allP_len (X k : Nat) : (allP X k).length = k := by simp [allP]

theorem and_pred_odd (m : Nat) : (2 * m + 1) &&& (2 * m) = 2 * m := by
  have e1 : ((2 * m + 1) &&& (2 * m)) % 2 ^ 1 = 0 := by
    rw [Nat.and_mod_two_pow, show 2 * m % 2 ^ 1 = 0 by omega]; simp
  have e2 : ((2 * m + 1) &&& (2 * m)) / 2 ^ 1 = m := by
    rw [Nat.and_div_two_pow, show (2 * m + 1) / 2 ^ 1 = m by omega, show 2 * m / 2 ^ 1 = m by omega]; simp
  omega

theorem and_pred (q m : Nat) : (2 ^ q * (2 * m + 1)) &&& (2 ^ q * (2 * m + 1) - 1) = m * 2 ^ (q + 1) := by
  have hp := Nat.two_pow_pos q
  have e0 : 2 ^ q * (2 * m + 1) - 1 = 2 ^ q * (2 * m) + (2 ^ q - 1) := by rw [Nat.mul_add]; omega
  have e1 : ((2 ^ q * (2 * m + 1)) &&& (2 ^ q * (2 * m + 1) - 1)) % 2 ^ q = 0 := by
    rw [Nat.and_mod_two_pow, Nat.mul_mod_right]; simp
  have e2 : ((2 ^ q * (2 * m + 1)) &&& (2 ^ q * (2 * m + 1) - 1)) / 2 ^ q = 2 * m := by
    rw [Nat.and_div_two_pow, Nat.mul_div_cancel_left _ hp, e0, Nat.mul_add_div hp, Nat.div_eq_of_lt (show 2 ^ q - 1 < 2 ^ q by omega), Nat.add_zero]
    exact and_pred_odd m
  have e3 := Nat.div_add_mod ((2 ^ q * (2 * m + 1)) &&& (2 ^ q * (2 * m + 1) - 1)) (2 ^ q)
  rw [e1, e2, Nat.add_zero] at e3
  rw [← e3, Nat.pow_succ, Nat.mul_comm 2 m, ← Nat.mul_assoc, Nat.mul_comm (2 ^ q) m, Nat.mul_assoc]

theorem rk_multiple (d m : Nat) : rk (2 ^ d * m) d = 0 := by
  rw [← rk_mod (2 ^ d * m) d d (Nat.le_refl _), Nat.mul_mod_right, rk_zero]

/-- One round of the going over. -/
theorem next_one (X p k R : Nat) (hX : X < 18446744073709551616) (hR : X / 2 ^ p * 2 ^ p = R) (hk : rk X p = k) (h0 : R ≠ 0) :
    ∃ q m : Nat, q < 64 ∧ R = 2 ^ q * (2 * m + 1) ∧ sel X k 64 = q ∧ rk X (q + 1) = k + 1 ∧ R &&& (R - 1) = X / 2 ^ (q + 1) * 2 ^ (q + 1) ∧ k + 1 ≤ rk X 64 := by
  have hle : R ≤ X := by rw [← hR]; exact Nat.div_mul_le_self X (2 ^ p)
  obtain ⟨m, hm, hq⟩ := Lib.ctzFrom_spec 64 R (by omega) (by omega)
  generalize Lib.ctzFrom 64 R = q at *
  have hpq : p ≤ q := by
    refine Nat.le_of_not_lt fun hlt => ?_
    have e : 2 ^ p = 2 ^ q * (2 * 2 ^ (p - q - 1)) := by
      rw [← Nat.mul_assoc, Nat.mul_comm (2 ^ q) 2, ← Nat.pow_succ', ← Nat.pow_add]
      congr 1; omega
    have e2 : 2 ^ q * (X / 2 ^ p * (2 * 2 ^ (p - q - 1))) = 2 ^ q * (2 * m + 1) := by
      rw [← hm, Nat.mul_left_comm, ← e, hR]
    have e3 := Nat.eq_of_mul_eq_mul_left (Nat.two_pow_pos q) e2
    rw [Nat.mul_left_comm] at e3
    omega
  obtain ⟨d, rfl⟩ : ∃ d, q = p + d := ⟨q - p, by omega⟩
  have e4 : X / 2 ^ p = 2 ^ d * (2 * m + 1) := by
    have : X / 2 ^ p * 2 ^ p = (2 ^ d * (2 * m + 1)) * 2 ^ p := by rw [hR, hm, Nat.pow_add, Nat.mul_assoc, Nat.mul_comm]
    exact Nat.eq_of_mul_eq_mul_right (Nat.two_pow_pos p) this
  have e5 : X / 2 ^ (p + d) = 2 * m + 1 := by
    rw [Nat.pow_add, ← Nat.div_div_eq_div_mul, e4, Nat.mul_div_cancel_left _ (Nat.two_pow_pos d)]
  have e6 : rk X (p + d) = k := by rw [rk_add, e4, rk_multiple, hk, Nat.add_zero]
  have e7 : rk X (p + d + 1) = k + 1 := by rw [rk, e6, e5]; omega
  refine ⟨p + d, m, hq, hm, sel_of X k 64 (p + d) hq (by rw [e5]; omega) (by rw [e6]), e7, ?_, ?_⟩
  · rw [hm, and_pred, Nat.pow_succ 2 (p + d), ← Nat.div_div_eq_div_mul, e5]
    congr 1; omega
  · rw [← e7]; exact rk_mono X (by omega)

theorem no_more (X p k : Nat) (hp : p ≤ 64) (hR : X / 2 ^ p * 2 ^ p = 0) (hk : rk X p = k) : k = rk X 64 := by
  have : X / 2 ^ p = 0 := by
    rcases Nat.mul_eq_zero.1 hR with h | h
    · exact h
    · have := Nat.two_pow_pos p; omega
  rw [show 64 = p + (64 - p) by omega, rk_add, this, rk_zero, hk, Nat.add_zero]

abbrev encP (p : Int × Int) : Array Value := #[.int .i64 p.1, .int .i64 p.2]

theorem and_less (R : Nat) (hR : R < 18446744073709551616) (h0 : ¬ R = 0) : bits .and .u64 (R : Int) (IntKind.u64.wrap ((R : Int) - 1)) = ((R &&& (R - 1) : Nat) : Int) := by
  rw [wrapU _ (by omega) (by omega), show (R : Int) - 1 = ((R - 1 : Nat) : Int) by omega]
  exact and_nat R (R - 1) hR (by omega)

set_option maxHeartbeats 1000000 in
/-- lane.Pairs hands over the ones of its word, the lowest first, as long as it is told to go on; it looks at nothing but its own word and the library's table. -/
theorem pairs1_in (n : Nat) (hn : 1 ≤ n) (l Bn n₀ X : Nat) (hX : X < 18446744073709551616) (h0n : 0 < n₀) (J Jx : List (Int × Int) → World → Prop)
    (hY : ∀ pre x W, (∃ k, k ≤ rk X 64 ∧ pre ++ [x] = allP X k) → J pre W → pre.length < rk X 64 → YieldAt Fence.wide (n - 1) Tryz.prog l (encP x) W fun e W' =>
      (e = .returned (.bool true) ∧ J (pre ++ [x]) W' ∧ Below n₀ W W') ∨ (e = .returned (.bool false) ∧ Jx (pre ++ [x]) W'))
    (W : World) (hBn : W.cell? ⟨Bn, 0, none⟩ = some (.int .u64 X)) (hT : TabIn W) (h0 : J [] W) :
    CallsIn Fence.wide n Tryz.prog 106 #[.func (.yield l) #[] #[], .pointer (some ⟨Bn, 0, none⟩)] W fun e W' => (∃ v, e = .returned v) ∧
      ((∃ ys, ys = allP X (rk X 64) ∧ J ys W') ∨ (∃ pre, (∃ k, k ≤ rk X 64 ∧ pre = allP X k) ∧ Jx pre W')) := by
  refine callsIn_of_wp Tryz.func106 rfl trivial ?_ rfl
  simp only [Tryz.ntmps106, List.size_toArray, List.length_cons, List.length_nil, Nat.reduceAdd, Nat.reduceSub, Array.replicate_succ, Array.replicate_zero, List.push_toArray, List.append_toArray, List.nil_append, List.cons_append]
  gi_wp2
  gi_loopw [3, 4] (fun kk rr wr => ∃ k R : Nat, kk = .int .i64 k ∧ rr = .int .u64 R ∧ R < 18446744073709551616 ∧ k ≤ 64 ∧ (∃ p, p ≤ 64 ∧ X / 2 ^ p * 2 ^ p = R ∧ rk X p = k) ∧ TabIn wr ∧ J (allP X k) wr)
    (fun kk _ _ => 64 - (intOf kk).toNat)
  case atStart =>
    exact ⟨0, X, rfl, rfl, hX, by omega, ⟨0, by omega, by simp, rfl⟩, hT, h0⟩
  case round =>
    obtain ⟨k, R, rfl, rfl, hR, hk, hp, hTr, hJs⟩ := hrel
    by_cases hz : R = 0
    · subst hz
      obtain ⟨p, hp1, hp2, hp3⟩ := hp
      have e := no_more X p k hp1 hp2 hp3
      gi_wp2
      go_end0
      exact ⟨⟨_, rfl⟩, .inl ⟨_, by rw [e], hJs⟩⟩
    · obtain ⟨p, hp1, hp2, hp3⟩ := hp
      obtain ⟨q, m, hq, hm, hs, hr1, hand, hr2⟩ := next_one X p k R hX hp2 hp3 hz
      have hr64 := rk_le X 64
      obtain ⟨fn, tmps, assign, body, hy, hRd⟩ := hY (allP X k) ((k : Int), sel X k 64) wr ⟨k + 1, hr2, (allP_succ X k).symm⟩ hJs (by rw [allP_len]; omega)
      have ktz := tz q m (by omega) hq wr hTr
      rw [← hm] at ktz
      dsimp only [encP] at hy
      rw [hs] at hy
      have hne : ((R : Int) == 0) = false := by simp; omega
      have HA : Hid (R &&& (R - 1) = X / 2 ^ (q + 1) * 2 ^ (q + 1)) := hand
      have HR : Hid (rk X (q + 1) = k + 1) := hr1
      rw [← allP_succ] at hRd
      clear hm hs hand hr1 hp1 hp2 hp3 hz
      gi_wp2_with (refine ⟨trivial, ?_⟩; gi_at_call 98; refine (callsIn_wide.2 ktz).mono ?_; rintro e w' ⟨rfl, rfl⟩)
      refine hRd.mono ?_
      clear hRd ktz hy
      rintro e W3 (⟨rfl, hJ3, hk3⟩ | ⟨rfl, hJx3⟩)
      · have hT3 : TabIn W3 := hTr.below hk3 h0n
        gi_wp2
        go_roundw
        case rel =>
          refine ⟨k + 1, R &&& (R - 1), by go_num, ?_, Nat.lt_of_le_of_lt Nat.and_le_left hR, by omega, ⟨q + 1, by omega, HA.out.symm, HR.out⟩, hT3, hJ3⟩
          rw [and_less R hR (by simpa using hne)]
        case measure => simp [intOf]; omega
      · gi_wp2
        refine bodyPost_ret (results_none rfl _ _ _) rfl ?_
        exact ⟨⟨_, rfl⟩, .inr ⟨_, ⟨k + 1, hr2, rfl⟩, hJx3⟩⟩

/-- lane.Pairs as a going over that may be left early. -/
theorem pairs_own (n : Nat) (hn : 1 ≤ n) (Bn lo X : Nat) (hX : X < 18446744073709551616) (h0n : 0 < lo) (w : World) (hB : Bn < w.heap.size) (hBn : w.cell? ⟨Bn, 0, none⟩ = some (.int .u64 X)) (hT : TabIn w) :
    SeqOwn Fence.wide n Tryz.prog 106 #[.pointer (some ⟨Bn, 0, none⟩)] encP lo (fun _ => True) (fun xs => xs = allP X (rk X 64)) (fun pre => ∃ k, k ≤ rk X 64 ∧ pre = allP X k) (rk X 64) w := by
  intro l J Jx W hW hlo _ _ _ hY h0
  refine (pairs1_in n hn l Bn lo X hX h0n (fun pre W1 => J pre W1 ∧ W.heap.size ≤ W1.heap.size) Jx (fun pre x W1 hSp hJ hlen => ?_) W ((hW.cell (p := ⟨Bn, 0, none⟩) hB).trans hBn) (More.tab hT hW) ⟨h0, Nat.le_refl _⟩).mono ?_
  · obtain ⟨fn, tmps, assign, body, hy, hRd⟩ := hY pre x W1 hSp hJ.1 hJ.2 hlen
    refine ⟨fn, tmps, assign, body, hy, hRd.mono ?_⟩
    rintro e W' (⟨he, h1, h2⟩ | ⟨he, h1, _⟩)
    · exact .inl ⟨he, ⟨h1, Nat.le_trans hJ.2 h2.size⟩, h2.below (Nat.le_trans hlo hJ.2)⟩
    · exact .inr ⟨he, h1⟩
  · rintro e W' ⟨he, (⟨ys, hy, hJ⟩ | h)⟩
    · exact ⟨he, .inl ⟨ys, hy, hJ.1⟩⟩
    · exact ⟨he, .inr h⟩

theorem pairs_call (n X : Nat) (w : World) : CallsIn Fence.wide n Tryz.prog 103 #[.int .u64 X] w fun e w' => e = .returned (.func (.func 106) #[] #[.pointer (some ⟨w.heap.size, 0, none⟩)]) ∧ w' = w.alloc (.cells #[.int .u64 X] 68) := by
  refine callsIn_of_wp Tryz.func103 rfl trivial ?_ rfl
  simp only [Tryz.ntmps103, List.size_toArray, List.length_cons, List.length_nil, Nat.reduceAdd, Nat.reduceSub, Array.replicate_succ, Array.replicate_zero, List.push_toArray, List.append_toArray, List.nil_append, List.cons_append]
  gi_wp2
  go_ret
  exact ⟨rfl, rfl⟩

end Go.Proofs.YtbjgbigalfhnjaaGreatDoor

namespace Go.Proofs.YtbjgbigalfhnjaaGreatDoor
open Go.RowKit

/-- The word x without its lowest m bits. -/
def cutLow (x m : Nat) : Nat := x / 2 ^ m * 2 ^ m
theorem cutLow_le (x m : Nat) : cutLow x m ≤ x := Nat.div_mul_le_self _ _
theorem cutLow_rk (x m i : Nat) : rk (cutLow x m) (m + i) + rk x m = rk x (m + i) := by
  have h1 : rk (cutLow x m) m = 0 := by unfold cutLow; rw [Nat.mul_comm]; exact rk_multiple m _
  have h2 : cutLow x m / 2 ^ m = x / 2 ^ m := Nat.mul_div_cancel _ (Nat.two_pow_pos m)
  rw [rk_add, rk_add x, h1, h2]; omega
theorem cutLow_low (x m p : Nat) (hp : p < m) : cutLow x m / 2 ^ p % 2 = 0 := by
  unfold cutLow
  obtain ⟨e, rfl⟩ : ∃ e, m = p + 1 + e := ⟨m - p - 1, by omega⟩
  rw [show x / 2 ^ (p + 1 + e) * 2 ^ (p + 1 + e) = 2 ^ p * (2 * (x / 2 ^ (p + 1 + e) * 2 ^ e)) by
    rw [show (2 : Nat) ^ (p + 1 + e) = 2 ^ p * 2 * 2 ^ e by rw [Nat.pow_add, Nat.pow_succ]]
    generalize x / (2 ^ p * 2 * 2 ^ e) = z
    rw [Nat.mul_assoc, Nat.mul_left_comm z, Nat.mul_left_comm z 2], Nat.mul_div_cancel_left _ (Nat.two_pow_pos p), Nat.mul_mod_right]
theorem cutLow_high (x m p : Nat) (hp : m ≤ p) : cutLow x m / 2 ^ p % 2 = x / 2 ^ p % 2 := by
  obtain ⟨e, rfl⟩ : ∃ e, p = m + e := ⟨p - m, by omega⟩
  have h2 : cutLow x m / 2 ^ m = x / 2 ^ m := Nat.mul_div_cancel _ (Nat.two_pow_pos m)
  rw [Nat.pow_add, ← Nat.div_div_eq_div_mul, ← Nat.div_div_eq_div_mul, h2]
theorem cutLow_zero (x : Nat) : cutLow x 0 = x := by simp [cutLow]

theorem cutLow_bit (x m p : Nat) : (cutLow x m).testBit p = (decide (m ≤ p) && x.testBit p) := by
  by_cases h : m ≤ p
  · rw [bit_eq, bit_eq, cutLow_high x m p h]; simp [h]
  · rw [bit_eq, cutLow_low x m p (by omega)]; simp [h]
theorem and_cut (x m : Nat) (hx : x < 18446744073709551616) (hm : m ≤ 64) : x &&& (18446744073709551615 - (2 ^ m - 1)) = cutLow x m := by
  have hp : 2 ^ m ≤ 2 ^ 64 := Nat.pow_le_pow_right (by decide) hm
  have h0 := Nat.two_pow_pos m
  rw [show 18446744073709551615 - (2 ^ m - 1) = 2 ^ 64 - (2 ^ m - 1 + 1) by omega]
  apply Nat.eq_of_testBit_eq
  intro p
  rw [Nat.testBit_and, Nat.testBit_two_pow_sub_succ (by omega), Nat.testBit_two_pow_sub_one, cutLow_bit]
  by_cases h64 : p < 64
  · by_cases h : m ≤ p
    · simp [h64, h, Nat.not_lt.2 h]
    · simp [h64, h, Nat.not_le.1 h]
  · have : x.testBit p = false := bit_above (n := 64) hx (by omega)
    simp [this]
theorem andNot_cut (x m : Nat) (hx : x < 18446744073709551616) (hm : m ≤ 64) : bits .andNot .u64 (x : Int) ((2 ^ m - 1 : Nat) : Int) = ((cutLow x m : Nat) : Int) := by
  have hp := pow_le64 hm
  rw [u64_andNot_nat x _ hx (by omega), and_cut x m hx hm]

theorem part_rk (V q m : Nat) (hm : m ≤ 64) : rk V (64 * q + m) + rk (cutLow (wd V q) m) 64 = rk V (64 * (q + 1)) := by
  have h := cutLow_rk (wd V q) m (64 - m)
  rw [show m + (64 - m) = 64 by omega] at h
  have h2 := rk_low V q m hm
  have h3 := rk_low V q 64 (Nat.le_refl _)
  rw [show 64 * q + 64 = 64 * (q + 1) by omega] at h3
  omega

theorem part_sel (V n q m j : Nat) (hV : V < 2 ^ n) (hm : m ≤ 64) (hj : j < rk (cutLow (wd V q) m) 64) : (q : Int) * 64 + sel (cutLow (wd V q) m) j 64 = ((pl V n (rk V (64 * q + m) + j) : Nat) : Int) ∧ pl V n (rk V (64 * q + m) + j) < 64 * q + 64 := by
  obtain ⟨p, hp, h1, h2⟩ := sel_in _ 64 j hj
  rw [sel_of _ j 64 p hp h1 (by omega)]
  have hmp : m ≤ p := by
    rcases Nat.lt_or_ge p m with h | h
    · rw [cutLow_low _ _ _ h] at h1; omega
    · exact h
  rw [cutLow_high _ _ _ hmp] at h1
  have hb := (wd_low V q p hp).1 h1
  have hr := cutLow_rk (wd V q) m (p - m)
  rw [show m + (p - m) = p by omega] at hr
  have e1 := rk_low V q p (by omega)
  have e2 := rk_low V q m hm
  have hpn : 64 * q + p < n := by
    rcases Nat.lt_or_ge (64 * q + p) n with h | h
    · exact h
    · have := bit_above hV h; rw [bit_one.1 hb] at this; cases this
  have := sel_of V ((rk V (64 * q + m) + j : Nat) : Int) n (64 * q + p) hpn hb (by omega)
  unfold pl
  rw [this]
  omega

/-- The ones from the k-th one on, c of them. -/
def goL (V n k c : Nat) : List (Int × Int) := (List.range c).map fun (j : Nat) => (((k + j : Nat) : Int), ((pl V n (k + j) : Nat) : Int))
theorem goL_len (V n k c : Nat) : (goL V n k c).length = c := by simp [goL]
theorem goL_succ (V n k c : Nat) : goL V n k (c + 1) = goL V n k c ++ [(((k + c : Nat) : Int), ((pl V n (k + c) : Nat) : Int))] := by simp [goL, List.range_succ]

/-- What From hands on of what Pairs hands over. -/
def trP (k q : Nat) (pre : List (Int × Int)) : List (Int × Int) := pre.mapIdx fun i x => (((k + i : Nat) : Int), wrap64 ((q : Int) * 64 + x.2))
theorem trP_len (k q : Nat) (pre : List (Int × Int)) : (trP k q pre).length = pre.length := by simp [trP]
theorem trP_snoc (k q : Nat) (pre : List (Int × Int)) (x : Int × Int) : trP k q (pre ++ [x]) = trP k q pre ++ [(((k + pre.length : Nat) : Int), wrap64 ((q : Int) * 64 + x.2))] := by simp [trP, List.mapIdx_append]
theorem trP_all (V n q m k c0 c : Nat) (hV : V < 2 ^ n) (hm : m ≤ 64) (hq : q ≤ 17179869185) (hk : k + c0 = rk V (64 * q + m)) (hc : c ≤ rk (cutLow (wd V q) m) 64) : goL V n k c0 ++ trP (k + c0) q (allP (cutLow (wd V q) m) c) = goL V n k (c0 + c) := by
  induction c with
  | zero => simp [trP, allP]
  | succ c ih =>
    have hs := part_sel V n q m c hV hm (by omega)
    rw [allP_succ, trP_snoc, ← List.append_assoc, ih (by omega), ← Nat.add_assoc, goL_succ, allP_len, hs.1, hk.symm]
    have hw : wrap64 ((pl V n (k + c0 + c) : Nat) : Int) = ((pl V n (k + c0 + c) : Nat) : Int) := by
      unfold wrap64; rw [← hk] at hs; omega
    rw [hw, Nat.add_assoc]

end Go.Proofs.YtbjgbigalfhnjaaGreatDoor

namespace Go.Proofs.YtbjgbigalfhnjaaGreatDoor
open Go.RowKit

/-- All blocks of the set are there. -/
def Within (C : Nat → Prop) (w : World) : Prop := ∀ k, C k → k < w.heap.size

/-- From w to w' the blocks of the set are as they were; others may have turned, new ones may have come. -/
structure Stay (C : Nat → Prop) (w w' : World) : Prop where
  os : w'.os = w.os
  tape : w'.tape = w.tape
  output : w'.output = w.output
  size : w.heap.size ≤ w'.heap.size
  block : ∀ k, C k → w'.heap[k]? = w.heap[k]?
theorem Stay.refl (C : Nat → Prop) (w : World) : Stay C w w := ⟨rfl, rfl, rfl, Nat.le_refl _, fun _ _ => rfl⟩
theorem Stay.trans {C : Nat → Prop} {a b c : World} (h : Stay C a b) (k : Stay C b c) : Stay C a c :=
  ⟨k.os.trans h.os, k.tape.trans h.tape, k.output.trans h.output, Nat.le_trans h.size k.size, fun i hi => (k.block i hi).trans (h.block i hi)⟩
theorem Stay.sub {C D : Nat → Prop} {a b : World} (h : Stay C a b) (hs : ∀ k, D k → C k) : Stay D a b := ⟨h.os, h.tape, h.output, h.size, fun k hk => h.block k (hs k hk)⟩
theorem Stay.of_more {C : Nat → Prop} {a b : World} (h : More a b) (hC : Within C a) : Stay C a b := ⟨h.os, h.tape, h.output, h.size, fun k hk => h.block k (hC k hk)⟩
theorem Stay.of_below {C : Nat → Prop} {B : Nat} {a b : World} (h : Below B a b) (hC : ∀ k, C k → k < B) : Stay C a b := ⟨h.os, h.tape, h.output, h.size, fun k hk => h.block k (hC k hk)⟩
theorem Stay.below {C : Nat → Prop} {B : Nat} {a b : World} (h : Stay C a b) (hC : ∀ k, k < B → C k) : Below B a b := ⟨h.os, h.tape, h.output, h.size, fun k hk => h.block k (hC k hk)⟩
theorem Stay.setCell {C : Nat → Prop} {a b : World} (h : Stay C a b) {p : Addr} (hp : ¬ C p.block) (v : Value) : Stay C a (b.setCell p v) :=
  h.trans ⟨rfl, rfl, rfl, (KeepsOthers.setCell b p v).size, fun _ hk => Below.heap_setCell _ _ _ _ (fun e => hp (e ▸ hk))⟩
theorem Stay.putObj {C : Nat → Prop} (w : World) (l : Nat) (o : Obj) (h : ¬ C l) : Stay C w (w.putObj l o) :=
  ⟨rfl, rfl, rfl, by simp, fun k hk => World.putObj_heap_other (fun e => h (e ▸ hk))⟩
theorem Stay.boxed {C : Nat → Prop} {a b : World} (h : Stay C a b) {B : Nat} {t : TypeId} {v : Value} (hb : Boxed a B t v) (hB : C B) : Boxed b B t v := (h.block B hB).trans hb
theorem Within.stay {C : Nat → Prop} {a b : World} (h : Within C a) (k : Stay C a b) : Within C b := fun i hi => Nat.lt_of_lt_of_le (h i hi) k.size
theorem Within.more {C : Nat → Prop} {a b : World} (h : Within C a) (k : a.heap.size ≤ b.heap.size) : Within C b := fun i hi => Nat.lt_of_lt_of_le (h i hi) k

/-- What a round does: of the old blocks such of the set turn alone, from lo on; the set grows by all that it has laid. -/
structure Turn (lo : Nat) (C C' : Nat → Prop) (w w' : World) : Prop where
  os : w'.os = w.os
  tape : w'.tape = w.tape
  output : w'.output = w.output
  size : w.heap.size ≤ w'.heap.size
  block : ∀ k, k < w.heap.size → (k < lo ∨ ¬ C k) → w'.heap[k]? = w.heap[k]?
  more : ∀ k, C' k ↔ C k ∨ (w.heap.size ≤ k ∧ k < w'.heap.size)
theorem Turn.refl (lo : Nat) (C : Nat → Prop) (w : World) : Turn lo C C w w := ⟨rfl, rfl, rfl, Nat.le_refl _, fun _ _ _ => rfl, fun _ => ⟨.inl, fun h => h.elim id fun h => by omega⟩⟩
theorem Turn.mono {lo lo' : Nat} {C C' : Nat → Prop} {a b : World} (h : Turn lo C C' a b) (hl : lo' ≤ lo) : Turn lo' C C' a b :=
  ⟨h.os, h.tape, h.output, h.size, fun k hk hd => h.block k hk (hd.imp (fun h => Nat.lt_of_lt_of_le h hl) id), h.more⟩
theorem Turn.trans {lo : Nat} {C C' C'' : Nat → Prop} {a b c : World} (h : Turn lo C C' a b) (k : Turn lo C' C'' b c) : Turn lo C C'' a c :=
  ⟨k.os.trans h.os, k.tape.trans h.tape, k.output.trans h.output, Nat.le_trans h.size k.size,
   fun i hi hd => (k.block i (Nat.lt_of_lt_of_le hi h.size) (hd.imp id fun hn hc => ((h.more i).1 hc).elim hn fun h2 => by omega)).trans (h.block i hi hd),
   fun i => by
    have h1 := h.size
    have h2 := k.size
    rw [k.more i, h.more i]
    constructor
    · rintro ((h | h) | h)
      · exact .inl h
      · exact .inr (by omega)
      · exact .inr (by omega)
    · rintro (h | h)
      · exact .inl (.inl h)
      · by_cases hb : i < b.heap.size
        · exact .inl (.inr ⟨h.1, hb⟩)
        · exact .inr ⟨by omega, h.2⟩⟩
theorem Turn.of_more {lo : Nat} {C : Nat → Prop} {a b : World} (h : More a b) : Turn lo C (fun k => C k ∨ (a.heap.size ≤ k ∧ k < b.heap.size)) a b := ⟨h.os, h.tape, h.output, h.size, fun k hk _ => h.block k hk, fun _ => Iff.rfl⟩
theorem Turn.drawn {lo : Nat} {C C' : Nat → Prop} {a b : World} {m : Nat} (h : Turn lo C C' (a.drewN m) b) : Turn lo C C' a b := ⟨h.os, h.tape, h.output, h.size, h.block, h.more⟩
theorem Turn.below {lo : Nat} {C C' : Nat → Prop} {a b : World} (h : Turn lo C C' a b) (hl : lo ≤ a.heap.size) : Below lo a b := ⟨h.os, h.tape, h.output, h.size, fun i hi => h.block i (Nat.lt_of_lt_of_le hi hl) (.inl hi)⟩
theorem Turn.within {lo : Nat} {C C' : Nat → Prop} {a b : World} (h : Turn lo C C' a b) (hC : Within C a) : Within C' b := fun k hk => ((h.more k).1 hk).elim (fun hc => Nat.lt_of_lt_of_le (hC k hc) h.size) fun h => h.2
theorem Turn.off {lo : Nat} {C C' : Nat → Prop} {a b : World} (h : Turn lo C C' a b) {k : Nat} (hn : ¬ C k) (hk : k < a.heap.size) : ¬ C' k := fun hc => ((h.more k).1 hc).elim hn fun h => by omega
theorem Turn.on {lo : Nat} {C C' : Nat → Prop} {a b : World} (h : Turn lo C C' a b) {k : Nat} (hc : C k) : C' k := (h.more k).2 (.inl hc)
theorem Turn.boxed {lo : Nat} {C C' : Nat → Prop} {a b : World} (h : Turn lo C C' a b) {B : Nat} {t : TypeId} {v : Value} (hb : Boxed a B t v) (hB : ¬ C B) : Boxed b B t v := (h.block B hb.lt (.inr hB)).trans hb
theorem Turn.boxed_lo {lo : Nat} {C C' : Nat → Prop} {a b : World} (h : Turn lo C C' a b) {B : Nat} {t : TypeId} {v : Value} (hb : Boxed a B t v) (hB : B < lo) : Boxed b B t v := (h.block B hb.lt (.inl hB)).trans hb
theorem Turn.setCell {lo : Nat} {C C' : Nat → Prop} {a b : World} (h : Turn lo C C' a b) {p : Addr} (h1 : lo ≤ p.block) (h2 : C' p.block) (v : Value) : Turn lo C C' a (b.setCell p v) := by
  have hs : (b.setCell p v).heap.size = b.heap.size := by simp
  refine ⟨h.os, h.tape, h.output, by rw [hs]; exact h.size, fun k hk hd => ?_, fun k => by rw [hs]; exact h.more k⟩
  rw [Below.heap_setCell _ _ _ _ (fun e => ?_)]
  · exact h.block k hk hd
  · subst e
    rcases (h.more _).1 h2 with h3 | h3
    · rcases hd with h4 | h4
      · omega
      · exact h4 h3
    · omega
/-- The same round, as one of a larger set. -/
theorem Turn.wide {lo : Nat} {C C' D : Nat → Prop} {a b : World} (h : Turn lo C C' a b) (hs : ∀ k, C k → D k) : Turn lo D (fun k => D k ∨ (a.heap.size ≤ k ∧ k < b.heap.size)) a b :=
  ⟨h.os, h.tape, h.output, h.size, fun k hk hd => h.block k hk (hd.imp id fun hn hc => hn (hs k hc)), fun _ => Iff.rfl⟩
theorem Turn.wider {lo : Nat} {C C' D : Nat → Prop} {a b : World} (h : Turn lo C C' a b) (hs : ∀ k, C k → D k) : ∀ k, C' k → D k ∨ (a.heap.size ≤ k ∧ k < b.heap.size) := fun k hk => ((h.more k).1 hk).imp (hs k) id

variable {F : Fence} {n : Nat} {P : Program}

/-- The iterator g hands over what it has, as long as it is told to go on, whatever turns in blocks that are not the caller's. -/
def SeqSet {α : Type} (F : Fence) (n : Nat) (P : Program) (g : Nat) (lb : Array Value) (encs : α → Array Value) (lo : Nat) (Kp : World → Prop) (S Sp : List α → Prop) (N : Nat) (w : World) : Prop :=
  ∀ (l : Nat) (J Jx : List α → (Nat → Prop) → World → Prop) (W : World) (C0 : Nat → Prop), More w W → Within C0 W → lo ≤ W.heap.size → (∀ s C A A', J s C A → Stay C A A' → J s C A') → (∀ s C A A', Jx s C A → Stay C A A' → Jx s C A') → (∀ s C A, J s C A → Kp A) →
    (∀ pre x W1 C, Sp (pre ++ [x]) → J pre C W1 → Within C W1 → W.heap.size ≤ W1.heap.size → pre.length < N → YieldAt F (n - 1) P l (encs x) W1 fun e W' =>
      ∃ C', (e = .returned (.bool true) ∧ J (pre ++ [x]) C' W' ∧ Turn lo C C' W1 W') ∨ (e = .returned (.bool false) ∧ Jx (pre ++ [x]) C' W' ∧ Turn 0 C C' W1 W')) →
    J [] C0 W →
    CallsIn F n P g (#[.func (.yield l) #[] #[]] ++ lb) W fun e W' => (∃ v, e = .returned v) ∧ ((∃ xs C, S xs ∧ J xs C W' ∧ Within C W') ∨ (∃ pre C, Sp pre ∧ Jx pre C W' ∧ Within C W'))

/-- What a body must achieve: it turns blocks of the caller's alone. -/
def postSet {α : Type} (lo : Nat) (C : Nat → Prop) (I : List α → (Nat → Prop) → World → Prop) (Ix : Code → List α → (Nat → Prop) → World → Prop) (xs : List α) (W : World) : Exit → Act → World → Prop
  | .normal, _, W' => ∃ C', Turn lo C C' W W' ∧ I xs C' W'
  | .ret, _, W' => ∃ C', Turn 0 C C' W W' ∧ Ix .ret xs C' W'
  | .exit id, _, W' => ∃ C', Turn 0 C C' W W' ∧ Ix (.exit id) xs C' W'
  | .goto t, _, W' => ∃ C', Turn 0 C C' W W' ∧ Ix (.goto t) xs C' W'
  | .panic _, _, _ => False
  | .outgrown, _, _ => False

theorem range_set {α : Type} {g : Operand} {ps : Array Tmp} {assign body : Code} {Q : Exit → Act → World → Prop} {a : Act} {w : World}
    (hro : F.round = none) (h1 : 1 ≤ n) {gf : Nat} {lb : Array Value} (hg : a.eval g = .func (.func gf) #[] lb) (hFg : F.fn gf) (eg : ∀ args w, (callFunc gf args).run P w = .ok (.enter gf args) w)
    {encs : α → Array Value} {lo : Nat} {Kp : World → Prop} {S Sp : List α → Prop} {N : Nat} {w0 : World} (hseq : SeqSet F (n - 1) P gf lb encs lo Kp S Sp N w0) (hlo : lo ≤ w.heap.size) (hb0 : More w0 w) (hps : ∀ x, (encs x).size = ps.size)
    (I : List α → (Nat → Prop) → World → Prop) (Ix : Code → List α → (Nat → Prop) → World → Prop) (hI : ∀ s C A A', I s C A → Stay C A A' → I s C A') (hIx : ∀ c s C A A', Ix c s C A → Stay C A A' → Ix c s C A') (hKp : ∀ s C A, I s C A → Kp A) (h0 : I [] (fun k => k < w.heap.size) w) (a₁ : α → Act)
    (hassign : ∀ (l : Nat) (x : α) (W : World) (K : Act → World → Prop), K (a₁ x) W →
      assign.wpIn (F.inRound l) (n - 1 - 1) P (Exit.then K (fun _ _ _ => False)) { tmps := (ps.zip (encs x)).foldl (fun t (p, v) => t.setIfInBounds p v) a.tmps, defers := [] } W)
    (hbody : ∀ (l : Nat) (pre : List α) (x : α) (W : World) (C : Nat → Prop), Sp (pre ++ [x]) → I pre C W → Within C W → (∀ k, k < w.heap.size → C k) → w.heap.size ≤ W.heap.size → pre.length < N → body.wpIn (F.inRound l) (n - 1 - 1) P (postSet lo C I Ix (pre ++ [x]) W) (a₁ x) W)
    (hdone : ∀ (D : Nat) (xs : List α) (C : Nat → Prop) (W : World), w.heap.size ≤ D → ¬ C D → S xs → I xs C W → Within C W → (∀ k, k < w.heap.size → C k) → W.heap[D]? = some (.deferred (some [])) → Q .normal { a with defers := { target := .collected D, args := #[] } :: a.defers } W)
    (hstop : ∀ (D : Nat) (c : Code) (pre : List α) (C : Nat → Prop) (W : World), w.heap.size ≤ D → ¬ C D → Sp pre → Ix c pre C W → Within C W → (∀ k, k < w.heap.size → C k) → W.heap[D]? = some (.deferred (some [])) → c.wpIn F n P Q { a with defers := { target := .collected D, args := #[] } :: a.defers } W) :
    (Code.rangeFunc g ps assign body).wpIn F n P Q a w := by
  refine wpIn_rangeFunc fun fn hfn => ?_
  rw [hro]
  obtain ⟨rec, hrec⟩ : ∃ rec : LoopState → Option Code → Loop, rec = fun st pe => { state := st, pending := pe, fn, tmps := a.tmps, params := ps, assign, body, defers := w.heap.size } := ⟨_, rfl⟩
  obtain ⟨W1, hW1⟩ : ∃ W1, (w.alloc (.deferred (some []))).alloc (.loop (rec .ready none)) = W1 := ⟨_, rfl⟩
  have hs1 : W1.heap.size = w.heap.size + 2 := by rw [← hW1]; simp
  have hL1 : W1.heap[w.heap.size + 1]? = some (.loop (rec .ready none)) := by
    have := World.alloc_heap_new (w.alloc (.deferred (some []))) (.loop (rec .ready none)); rw [World.size_alloc] at this; rw [← hW1]; exact this
  have hD1 : W1.heap[w.heap.size]? = some (.deferred (some [])) := by rw [← hW1]; exact (Below.heap_alloc _ _ _ (by simp)).trans (World.alloc_heap_new w _)
  have hm1 : More w W1 := by rw [← hW1]; exact ((Below.refl _ w).alloc (Nat.le_refl _) _).alloc (by simp) _
  refine ⟨w.heap.size + 1, [{ target := .collected w.heap.size, args := #[] }], W1, { target := .fn (.func gf) lb, args := #[.func (.yield (w.heap.size + 1)) #[] #[]] }, W1, gf,
    #[.func (.yield (w.heap.size + 1)) #[] #[]] ++ lb, W1, by rw [← hW1, hrec]; exact run_enterLoop_outer _ _ _ _ _, by simp only [resolve, hg]; simp [go_sem], fun f' hf' => by simp [Target.leads] at hf'; subst hf'; exact hFg, by simp [invoke, go_sem, eg], fun _ => h1, ?_⟩
  obtain ⟨D0, hD0⟩ : ∃ D0, w.heap.size = D0 := ⟨_, rfl⟩
  rw [hD0] at hs1 hL1 hD1 ⊢
  refine (hseq (D0 + 1)
    (fun pre Cs W => ∃ C : Nat → Prop, (∀ k, Cs k ↔ C k ∨ k = D0 ∨ k = D0 + 1) ∧ ¬ C D0 ∧ ¬ C (D0 + 1) ∧ (∀ k, k < D0 → C k) ∧ I pre C W ∧ W.heap[D0 + 1]? = some (.loop (rec .ready none)) ∧ W.heap[D0]? = some (.deferred (some [])))
    (fun pre Cs W => ∃ (C : Nat → Prop) (c : Code), (∀ k, Cs k ↔ C k ∨ k = D0 ∨ k = D0 + 1) ∧ ¬ C D0 ∧ ¬ C (D0 + 1) ∧ (∀ k, k < D0 → C k) ∧ Ix c pre C W ∧ W.heap[D0 + 1]? = some (.loop (rec .done (some c))) ∧ W.heap[D0]? = some (.deferred (some [])))
    W1 (fun k => k < D0 + 2) (More.trans hb0 hm1) (fun k hk => by rw [hs1]; exact hk) (by omega)
    (fun s Cs A A' ⟨C, hc, hn1, hn2, hlt, h, h2, h3⟩ k => ⟨C, hc, hn1, hn2, hlt, hI s C A A' h (k.sub fun j hj => (hc j).2 (.inl hj)), (k.block _ ((hc _).2 (.inr (.inr rfl)))).trans h2, (k.block _ ((hc _).2 (.inr (.inl rfl)))).trans h3⟩)
    (fun s Cs A A' ⟨C, c, hc, hn1, hn2, hlt, h, h2, h3⟩ k => ⟨C, c, hc, hn1, hn2, hlt, hIx c s C A A' h (k.sub fun j hj => (hc j).2 (.inl hj)), (k.block _ ((hc _).2 (.inr (.inr rfl)))).trans h2, (k.block _ ((hc _).2 (.inr (.inl rfl)))).trans h3⟩)
    (fun s Cs A ⟨C, _, _, _, _, h, _⟩ => hKp s C A h) ?_ ⟨fun k => k < D0, fun k => by omega, by omega, by omega, fun _ h => h, hI _ _ _ _ (by rw [hD0] at h0; exact h0) (Stay.of_more hm1 (fun k hk => by rw [hD0]; exact hk)), hL1, hD1⟩).mono ?_
  · rintro pre x W Cs hSpx ⟨C, hc, hn1, hn2, hlt, hi, hl, hk⟩ hwi hsz hlen
    have hy := run_yield (P := P) (args := encs x) hl (by rw [hrec]; exact hps x)
    rw [hrec] at hy
    refine ⟨fn, _, assign, body, hy, roundIn_of_wpIn hfn (hassign _ x W _ ⟨_, run_beginRound hl (by rw [hrec]), ?_⟩)⟩
    clear hy
    have hwiC : Within C W := fun k h => hwi k ((hc k).2 (.inl h))
    obtain ⟨W2, hW2⟩ : ∃ W2, W.putObj (D0 + 1) (.loop { rec .ready none with state := .busy }) = W2 := ⟨_, rfl⟩
    have hs2 : W2.heap.size = W.heap.size := by rw [← hW2]; simp
    have hl2 : W2.heap[D0 + 1]? = some (.loop { rec .ready none with state := .busy }) := by rw [← hW2]; exact World.putObj_heap_same (by omega)
    have hk2 : W2.heap[D0]? = some (.deferred (some [])) := by rw [← hW2]; exact (World.putObj_heap_other (by omega)).trans hk
    have hb2 : ∀ k, k ≠ D0 + 1 → W2.heap[k]? = W.heap[k]? := fun k h => by rw [← hW2]; exact World.putObj_heap_other h
    have ho2 : W2.os = W.os ∧ W2.tape = W.tape ∧ W2.output = W.output := by rw [← hW2]; exact ⟨rfl, rfl, rfl⟩
    have hi2 : I pre C W2 := by rw [← hW2]; exact hI _ _ _ _ hi (Stay.putObj _ _ _ hn2)
    have fin : ∀ (L : Nat) (jump : Option Code) (W3 : World) (C' : Nat → Prop), L ≤ D0 → Turn L C C' W2 W3 → ∃ W4, (Instr.endRound (D0 + 1) jump).run P W3 = .ok (.bool jump.isNone) W4 ∧ W4.heap[D0 + 1]? = some (.loop (rec (if jump.isNone then .ready else .done) jump)) ∧ W4.heap[D0]? = some (.deferred (some [])) ∧ Stay C' W3 W4 ∧ Turn L Cs (fun k => C' k ∨ k = D0 ∨ k = D0 + 1) W W4 ∧ ¬ C' D0 ∧ ¬ C' (D0 + 1) ∧ (∀ k, k < D0 → C' k) := fun L jump W3 C' hL h3 => by
      have hl3 := (h3.block _ (by omega) (.inr hn2)).trans hl2
      have hk3 := (h3.block _ (by omega) (.inr hn1)).trans hk2
      have hr := run_endRound (P := P) jump hl3
      have hlt3 : D0 + 1 < W3.heap.size := by have := h3.size; omega
      have hn1' := h3.off hn1 (by omega)
      have hn2' := h3.off hn2 (by omega)
      refine ⟨_, hr, by rw [hrec]; exact World.putObj_heap_same hlt3, (World.putObj_heap_other (by omega)).trans hk3, Stay.putObj _ _ _ hn2', ?_, hn1', hn2', fun k hk => h3.on (hlt k hk)⟩
      refine ⟨h3.os.trans ho2.1, h3.tape.trans ho2.2.1, h3.output.trans ho2.2.2, by have := h3.size; simp; omega, fun k hk hd => ?_, fun k => ?_⟩
      · have hne : k ≠ D0 + 1 := fun e => by
          subst e
          rcases hd with h | h
          · omega
          · exact h ((hc _).2 (.inr (.inr rfl)))
        rw [World.putObj_heap_other hne, h3.block k (by omega) (hd.imp id fun hn hC => hn ((hc k).2 (.inl hC))), hb2 k hne]
      · rw [hc k, h3.more k, hs2]
        simp only [World.putObj, Array.size_setIfInBounds]
        constructor
        · rintro ((h | h) | h)
          · exact .inl (.inl h)
          · exact .inr h
          · exact .inl (.inr h)
        · rintro ((h | h) | h)
          · exact .inl (.inl h)
          · exact .inr h
          · exact .inl (.inr h)
    rw [hW2]
    refine wpIn_mono (hbody _ pre x W2 C hSpx hi2 (hwiC.more (by omega)) (by rw [hD0]; exact hlt) (by omega) hlen) ?_
    rintro e a3 W3 hp
    cases e with
    | normal =>
      obtain ⟨C', ht, hx⟩ := hp
      obtain ⟨W4, hr, hl4, hk4, hb4, ho4, n1, n2, hl5⟩ := fin lo none W3 C' (by omega) ht
      exact ⟨_, _, hr, _, .inl ⟨rfl, ⟨C', fun _ => Iff.rfl, n1, n2, hl5, hI _ _ _ _ hx hb4, hl4, hk4⟩, ho4⟩⟩
    | ret =>
      obtain ⟨C', ht, hx⟩ := hp
      obtain ⟨W4, hr, hl4, hk4, hb4, ho4, n1, n2, hl5⟩ := fin 0 (some .ret) W3 C' (by omega) ht
      exact ⟨_, _, hr, _, .inr ⟨rfl, ⟨C', .ret, fun _ => Iff.rfl, n1, n2, hl5, hIx _ _ _ _ _ hx hb4, hl4, hk4⟩, ho4⟩⟩
    | exit id =>
      obtain ⟨C', ht, hx⟩ := hp
      obtain ⟨W4, hr, hl4, hk4, hb4, ho4, n1, n2, hl5⟩ := fin 0 (some (.exit id)) W3 C' (by omega) ht
      exact ⟨_, _, hr, _, .inr ⟨rfl, ⟨C', .exit id, fun _ => Iff.rfl, n1, n2, hl5, hIx _ _ _ _ _ hx hb4, hl4, hk4⟩, ho4⟩⟩
    | goto t =>
      obtain ⟨C', ht, hx⟩ := hp
      obtain ⟨W4, hr, hl4, hk4, hb4, ho4, n1, n2, hl5⟩ := fin 0 (some (.goto t)) W3 C' (by omega) ht
      exact ⟨_, _, hr, _, .inr ⟨rfl, ⟨C', .goto t, fun _ => Iff.rfl, n1, n2, hl5, hIx _ _ _ _ _ hx hb4, hl4, hk4⟩, ho4⟩⟩
    | panic ch => exact hp.elim
    | outgrown => exact hp.elim
  · rintro e W2 ⟨⟨v, rfl⟩, (⟨xs, Cs, hS, ⟨C, hc, hn1, hn2, hlt, hi, hl, hk⟩, hwi⟩ | ⟨pre, Cs, hSp, ⟨C, c, hc, hn1, hn2, hlt, hi, hl, hk⟩, hwi⟩)⟩
    · refine ⟨none, _, by have := run_endLoop (P := P) hl (by rw [hrec]; simp); rw [hrec] at this; exact this, ?_⟩
      rw [hD0] at hdone
      exact hdone _ xs C _ (Nat.le_refl _) hn1 hS (hI _ _ _ _ hi (Stay.putObj _ _ _ hn2)) (fun k h => by simp; exact hwi k ((hc k).2 (.inl h))) hlt ((World.putObj_heap_other (by omega)).trans hk)
    · refine ⟨some c, _, by have := run_endLoop (P := P) hl (by rw [hrec]; simp); rw [hrec] at this; exact this, ?_⟩
      rw [hD0] at hstop
      exact hstop _ c pre C _ (Nat.le_refl _) hn1 hSp (hIx _ _ _ _ _ hi (Stay.putObj _ _ _ hn2)) (fun k h => by simp; exact hwi k ((hc k).2 (.inl h))) hlt ((World.putObj_heap_other (by omega)).trans hk)

/-- The way out of a function that has such marks, none of them the caller's: each block is shut. -/
theorem leaves_set {fn : Func} {tmps : Array Value} {R : Ending → World → Prop} {B : Nat} {C : Nat → Prop} : ∀ {ds : List Deferred} {w : World}, Marks B w ds → (∀ d ∈ ds, ∀ D, d.target = .collected D → ¬ C D) → (∀ w', Stay C w w' → Below B w w' → LeavesIn F n P fn tmps R [] .returning w') → LeavesInM F n P fn tmps R ds .returning w := by
  intro ds
  induction ds with
  | nil => intro w _ _ h; exact h w (Stay.refl _ _) (Below.refl _ _)
  | cons d ds ih =>
    intro w hM hC h
    cases hM with
    | cons hB hD hne hM =>
      refine ⟨by simp, .inl ⟨_, _, rfl, run_takeDeferred hD, ih (hM.kept fun D' _ ⟨d, hd, he⟩ h' => ?_) (fun d hd => hC d (List.mem_cons_of_mem _ hd)) fun w' hw' hb' => h w' ((Stay.putObj _ _ _ (hC _ List.mem_cons_self _ rfl)).trans hw') ((below_putObj _ _ _ _ hB).trans hb')⟩⟩
      exact (World.putObj_heap_other (fun e => hne d hd (by rw [he, e]))).trans h'
theorem Marks.turn {B lo : Nat} {C C' : Nat → Prop} {w w' : World} {ds : List Deferred} (h : Marks B w ds) (k : Turn lo C C' w w') (hn : ∀ d ∈ ds, ∀ D, d.target = .collected D → ¬ C D) : Marks B w' ds :=
  h.kept fun D _ ⟨d, hd, he⟩ h' => (k.block D (Array.getElem?_eq_some_iff.1 h').1 (.inr (hn d hd D he))).trans h'
theorem Marks.stay {B : Nat} {C : Nat → Prop} {w w' : World} {ds : List Deferred} (h : Marks B w ds) (k : Stay C w w') (hn : ∀ d ∈ ds, ∀ D, d.target = .collected D → C D) : Marks B w' ds :=
  h.kept fun D _ ⟨d, hd, he⟩ h' => (k.block D (hn d hd D he)).trans h'

end Go.Proofs.YtbjgbigalfhnjaaGreatDoor
