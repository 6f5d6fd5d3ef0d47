/-
  bitrow's word, Cut, Bit, Ones, Next, Words and Same: what a row tells.
  bitrow's Same: have two rows the same bits?
  bitrow's Of: the row of some words, or why there is none.
-/
import Derived.Test.YtbjgbigalfhnjaaGreatDoorSet03
import Derived.Deep.RegionWith
namespace Go.Proofs.YtbjgbigalfhnjaaGreatDoor
open Go.RowKit

theorem Hid.mk {p : Prop} (h : p) : Hid p := h

/-- A row as it is read. -/
structure RowRd (w : World) (b V n : Nat) : Prop where
  fit : V < 2 ^ n
  len : n ≤ 1099511627776
  c1 : w.cell? ⟨b, 1, none⟩ = some (.int .i64 n)
  c0 : (nw n = 0 ∧ ∃ ao cap, w.cell? ⟨b, 0, none⟩ = some (.slice ao 0 cap)) ∨
    ∃ g cap, w.cell? ⟨b, 0, none⟩ = some (.slice (some ⟨g, 0, none⟩) (nw n) cap) ∧ ∀ j, j < nw n → w.cell? ⟨g, j, none⟩ = some (.int .u64 (wd V j : Nat))

theorem RowAt.rd {w : World} {base b V n : Nat} (h : RowAt w base b V n) : RowRd w b V n := by
  obtain ⟨v, hb, hown⟩ := h.mem
  obtain ⟨c0, c1, _, _⟩ := cells2 hb
  refine ⟨h.fit, h.len, c1, ?_⟩
  rcases hown.2 with ⟨rfl, hn⟩ | ⟨g, cap, cur, rfl, _, hg, _⟩
  · exact .inl ⟨hn, _, _, c0⟩
  · exact .inr ⟨g, cap, c0, fun j hj => by rw [hown.cellAt j (by omega), u64s_get _ _ _ hj]⟩
theorem RowRd.drewN {w : World} {b V n : Nat} (h : RowRd w b V n) (m : Nat) : RowRd (w.drewN m) b V n := ⟨h.fit, h.len, h.c1, h.c0⟩
theorem RowRd.zero {w : World} {b V n : Nat} (h : RowRd w b V n) (h0 : nw n = 0) : V = 0 := by
  have : n = 0 := by unfold nw at h0; omega
  have := h.fit
  subst n
  simpa using this

theorem row_word (b V n : Nat) (k : Int) (w : World) (h : RowRd w b V n) : Calls Tryz.prog 69 #[.pointer (some ⟨b, 0, none⟩), .int .i64 k] w fun e w' => e = .returned (.int .u64 (wdI V k : Nat)) ∧ w' = w := by
  have hl : nw n ≤ 1099511627776 := by have := h.len; unfold nw; omega
  by_cases h0 : k < 0
  · rw [show wdI V k = 0 by simp [wdI, h0]]
    clear h
    go_enter Tryz.func69, Tryz.ntmps69
    go_wp2
    go_ret
    exact ⟨rfl, rfl⟩
  obtain ⟨k, rfl⟩ := Int.eq_ofNat_of_zero_le (show 0 ≤ k by omega)
  by_cases h1 : nw n ≤ k
  · rw [show wdI V k = 0 by simp [wdI, wd_zero h.fit k h1]]
    rcases h.c0 with ⟨hz, ao, cap, c0⟩ | ⟨g, cap, c0, hc⟩
    · clear h hz
      go_enter Tryz.func69, Tryz.ntmps69
      go_wp2
      go_ret
      exact ⟨rfl, rfl⟩
    · clear h hc
      go_enter Tryz.func69, Tryz.ntmps69
      go_wp2
      go_ret
      exact ⟨rfl, rfl⟩
  · rw [show wdI V k = wd V k by simp [wdI]; omega]
    rcases h.c0 with ⟨hz, ao, cap, c0⟩ | ⟨g, cap, c0, hc⟩
    · omega
    · have hk := hc k (by omega)
      clear h hc
      go_enter Tryz.func69, Tryz.ntmps69
      go_wp2
      go_ret
      exact ⟨rfl, rfl⟩

theorem nil_word (k : Int) (w : World) : Calls Tryz.prog 69 #[.pointer none, .int .i64 k] w fun e w' => e = .returned (.int .u64 0) ∧ w' = w := by
  go_enter Tryz.func69, Tryz.ntmps69
  go_wp2
  go_ret
  exact ⟨rfl, rfl⟩

theorem i64_and63 (n : Int) : bits .and .i64 n 63 = n % 64 := by
  have h63 : (BitVec.ofInt 64 63).toNat = 2 ^ 6 - 1 := by decide
  have key : (BitVec.ofInt 64 n &&& BitVec.ofInt 64 63).toNat = (n % ((2 ^ 64 : Nat) : Int)).toNat % 2 ^ 6 := by
    rw [BitVec.toNat_and, BitVec.toNat_ofInt, h63, Nat.and_two_pow_sub_one_eq_mod]
  show IntKind.i64.wrap ((BitVec.ofInt 64 n &&& BitVec.ofInt 64 63).toNat : Nat) = n % 64
  rw [key, IntKind.wrap_i64]
  omega

theorem or_mods (A B M : Nat) (h : M ≤ 64) : bits .or .u64 ((A : Int) % 2 ^ M) ((B : Int) % 2 ^ M) = ((A % 2 ^ M ||| B % 2 ^ M : Nat) : Int) := by
  have e : ∀ X : Nat, ((X : Int) % 2 ^ M) = ((X % 2 ^ M : Nat) : Int) := fun X => by rw [Int.natCast_emod, Int.natCast_pow]; rfl
  rw [e A, e B, u64_or_nat _ _ (mod_lt64 _ _ h) (mod_lt64 _ _ h)]

theorem row_cut (b V n : Nat) (a m : Int) (w : World) (h : RowRd w b V n) (a0 : -9223372036854775808 ≤ a) (a1 : a ≤ 9223372036854775807) :
    Calls Tryz.prog 42 #[.pointer (some ⟨b, 0, none⟩), .int .i64 a, .int .i64 m] w fun e w' => e = .returned (.int .u64 (cutV V a (min 64 m.toNat) : Nat)) ∧ ∃ k, w' = w.drewN k := by
  have hand := i64_and63 a
  obtain ⟨k, hk⟩ : ∃ k, a / 64 = k := ⟨_, rfl⟩
  obtain ⟨u, hu⟩ := Int.eq_ofNat_of_zero_le (show 0 ≤ a % 64 by omega)
  rw [hu] at hand
  have hu64 : u < 64 := by omega
  have he : cutV V a (min 64 m.toNat) = (sh (wdI V k) (u : Int) % 2 ^ min 64 m.toNat) ||| (sh (wdI V (k + 1)) ((u : Int) - 64) % 2 ^ min 64 m.toNat) := by
    rw [cut_two V k u _ hu64 (by omega), show 64 * k + (u : Int) = a by omega]
  rw [he]
  have k0 : -9223372036854775808 ≤ k := by omega
  have k1 : k ≤ 1099511627776000000 := by omega
  have HR : Hid _ := h
  clear h hu he a0 a1
  go_enter Tryz.func42, Tryz.ntmps42
  go_wp2_with (first
    | (go_at_call 69; refine (row_word b V n _ _ (by first | exact HR.out | exact HR.out.drewN _)).mono ?_; rintro e w' ⟨rfl, rfl⟩)
    | (go_at_call 68; refine (lane_Cut _ (wdI_lt _ _) _ _ _).mono ?_; rintro e w' ⟨rfl, m1, rfl⟩))
  go_ret
  refine ⟨?_, _, rfl⟩
  rw [← or_mods _ _ _ (by omega)]
  rfl

theorem sh_0 (a : Int) : sh 0 a = 0 := by unfold sh; split <;> (try split) <;> simp

theorem lane_Cut0 (a m : Int) (w : World) : Calls Tryz.prog 68 #[.int .u64 0, .int .i64 a, .int .i64 m] w fun e w' => e = .returned (.int .u64 0) ∧ ∃ k, w' = w.drewN k := by
  refine (lane_Cut 0 (by decide) a m w).mono ?_
  rintro e w' ⟨rfl, h⟩
  rw [sh_0]
  exact ⟨by simp, h⟩

theorem nil_cut (a m : Int) (w : World) (a0 : -9223372036854775808 ≤ a) (a1 : a ≤ 9223372036854775807) :
    Calls Tryz.prog 42 #[.pointer none, .int .i64 a, .int .i64 m] w fun e w' => e = .returned (.int .u64 0) ∧ ∃ k, w' = w.drewN k := by
  have hand := i64_and63 a
  obtain ⟨k, hk⟩ : ∃ k, a / 64 = k := ⟨_, rfl⟩
  obtain ⟨u, hu⟩ := Int.eq_ofNat_of_zero_le (show 0 ≤ a % 64 by omega)
  rw [hu] at hand
  have hu64 : u < 64 := by omega
  have k0 : -9223372036854775808 ≤ k := by omega
  have k1 : k ≤ 1099511627776000000 := by omega
  clear hu a0 a1
  go_enter Tryz.func42, Tryz.ntmps42
  go_wp2_with (first
    | (go_at_call 69; refine (nil_word _ _).mono ?_; rintro e w' ⟨rfl, rfl⟩)
    | (go_at_call 68; refine (lane_Cut0 _ _ _).mono ?_; rintro e w' ⟨rfl, m1, rfl⟩))
  go_ret
  exact ⟨rfl, _, rfl⟩

/-- Is the bit i of V one? -/
def bitI (V : Nat) (i : Int) : Bool := decide (0 ≤ i) && V.testBit i.toNat

theorem cut_bit (V : Nat) (i : Int) : (((cutV V i 1 : Nat) : Int) == 1) = bitI V i := by
  have h := cutV_bit V i 1 0
  have hl : cutV V i 1 < 2 := Nat.mod_lt _ (by decide)
  simp at h
  unfold bitI
  rw [← h]
  rcases (show cutV V i 1 = 0 ∨ cutV V i 1 = 1 by omega) with e | e <;> rw [e] <;> rfl

theorem rk_lim (V k K : Nat) (h : k ≤ K) (hK : K ≤ 1099511627776) : rk V (64 * k) ≤ 70368744177664 := Nat.le_trans (rk_le _ _) (by omega)

theorem nil_next (i : Int) (w : World) : Calls Tryz.prog 84 #[.pointer none, .int .i64 i] w fun e w' => e = .returned (.int .i64 (-1)) ∧ w' = w := by
  go_enter Tryz.func84, Tryz.ntmps84
  go_wp2_with (go_at_call 41; refine (nil_len _).mono ?_; rintro e w' ⟨rfl, rfl⟩)
  go_ret
  exact ⟨rfl, rfl⟩

/-- A number that is not 0 has a lowest one. -/
theorem lowest (Y : Nat) (h : Y ≠ 0) : ∃ q m, Y = 2 ^ q * (2 * m + 1) := by
  induction Y using Nat.strongRecOn with
  | _ Y ih =>
    by_cases ho : Y % 2 = 1
    · exact ⟨0, Y / 2, by omega⟩
    · obtain ⟨q, m, e⟩ := ih (Y / 2) (by omega) (by omega)
      refine ⟨q + 1, m, ?_⟩
      rw [Nat.pow_succ, Nat.mul_comm (2 ^ q) 2, Nat.mul_assoc, ← e]
      omega
theorem lowest_bit (q m t : Nat) : (2 ^ q * (2 * m + 1)).testBit t = (decide (q ≤ t) && (2 * m + 1).testBit (t - q)) := by
  rw [Nat.mul_comm, ← Nat.shiftLeft_eq, Nat.testBit_shiftLeft]

theorem next_word (V j f k r B : Nat) (hf : f = j / 64) (hr : r = j % 64) (hB : B = if k = 0 then 2 ^ r - 1 else 0) (t : Nat) :
    (wd V (f + k) &&& (18446744073709551615 - B)).testBit t = (decide (t < 64) && (decide (j ≤ 64 * (f + k) + t) && V.testBit (64 * (f + k) + t))) := by
  have hr6 : r < 64 := by omega
  have hm : (18446744073709551615 - B).testBit t = (decide (t < 64) && !B.testBit t) := by
    have hB2 : B < 2 ^ 64 := by
      rw [hB]; split
      · have := Nat.pow_le_pow_right (show 0 < 2 by decide) (show r ≤ 64 by omega)
        have := Nat.two_pow_pos r
        omega
      · decide
    have := Nat.testBit_two_pow_sub_succ hB2 t
    rwa [show 2 ^ 64 - (B + 1) = 18446744073709551615 - B by omega] at this
  rw [Nat.testBit_and, wd_bit, hm]
  by_cases ht : t < 64
  · by_cases hk : k = 0
    · subst hk
      rw [if_pos rfl] at hB
      subst hB
      rw [Nat.testBit_two_pow_sub_one, Nat.add_zero]
      by_cases hh : t < r
      · have h2 : ¬ j ≤ 64 * f + t := by omega
        simp [ht, hh, h2]
      · have h2 : j ≤ 64 * f + t := by omega
        simp [ht, hh, h2]
    · rw [if_neg hk] at hB
      subst hB
      have h2 : j ≤ 64 * (f + k) + t := by omega
      simp [ht, h2]
  · simp [ht]

theorem next_done (V n j K f k : Nat) (i : Int) (hj : max i 0 = (j : Int)) (hn : n ≤ 64 * K) (hk : K ≤ f + k) (hp : ∀ p : Nat, j ≤ p → p < 64 * (f + k) → V.testBit p = false) : nextV V i n = -1 :=
  nextV_none V i n fun p hpn hip => hp p (by omega) (by omega)

theorem next_step (V j f k : Nat) (hw : ∀ t : Nat, Nat.testBit 0 t = (decide (t < 64) && (decide (j ≤ 64 * (f + k) + t) && V.testBit (64 * (f + k) + t)))) (hp : ∀ p : Nat, j ≤ p → p < 64 * (f + k) → V.testBit p = false) :
    ∀ p : Nat, j ≤ p → p < 64 * (f + (k + 1)) → V.testBit p = false := by
  intro p h1 h2
  by_cases h3 : p < 64 * (f + k)
  · exact hp p h1 h3
  · have := hw (p - 64 * (f + k))
    rw [show 64 * (f + k) + (p - 64 * (f + k)) = p by omega] at this
    simpa [show p - 64 * (f + k) < 64 by omega, h1] using this.symm

theorem next_found (V n j f k q m Y : Nat) (i : Int) (hj : max i 0 = (j : Int)) (hV : V < 2 ^ n) (hq : q < 64) (hY : Y = 2 ^ q * (2 * m + 1))
    (hw : ∀ t : Nat, Y.testBit t = (decide (t < 64) && (decide (j ≤ 64 * (f + k) + t) && V.testBit (64 * (f + k) + t)))) (hp : ∀ p : Nat, j ≤ p → p < 64 * (f + k) → V.testBit p = false) :
    ((f : Int) + (k : Int)) * 64 + (q : Int) = nextV V i n := by
  have h1 := hw q
  rw [hY, lowest_bit, Nat.sub_self, show (2 * m + 1).testBit 0 = true by simp] at h1
  have h2 := h1.symm
  simp only [Nat.le_refl, decide_true, Bool.and_true, Bool.and_eq_true, decide_eq_true_eq] at h2
  have hlt : 64 * (f + k) + q < n := by
    apply Nat.lt_of_not_le
    intro h
    rw [bit_above hV h] at h2
    simp at h2
  rw [nextV_of V i n (64 * (f + k) + q) hlt (by omega) h2.2.2 ?_]
  · omega
  · intro p h3 h4
    by_cases h5 : p < 64 * (f + k)
    · exact hp p (by omega) h5
    · have h6 := hw (p - 64 * (f + k))
      rw [hY, lowest_bit, show 64 * (f + k) + (p - 64 * (f + k)) = p by omega] at h6
      have : ¬ q ≤ p - 64 * (f + k) := by omega
      simpa [this, show p - 64 * (f + k) < 64 by omega, show j ≤ p by omega] using h6.symm

set_option maxHeartbeats 800000 in
theorem row_next (b V n : Nat) (i : Int) (w : World) (h : RowRd w b V n) (hT : TabIn w) :
    Calls Tryz.prog 84 #[.pointer (some ⟨b, 0, none⟩), .int .i64 i] w fun e w' => e = .returned (.int .i64 (nextV V i n)) ∧ w' = w := by
  obtain ⟨j, hj⟩ := Int.eq_ofNat_of_zero_le (show 0 ≤ max i 0 by omega)
  have c1 := h.c1
  have hlen := h.len
  by_cases hn : n ≤ j
  · rw [nextV_none V i n (fun p hp hip => by omega)]
    clear h hT
    go_enter Tryz.func84, Tryz.ntmps84
    go_wp2_with (go_at_call 41; refine (row_len b n _ c1).mono ?_; rintro e w' ⟨rfl, rfl⟩)
    go_ret
    exact ⟨rfl, rfl⟩
  · rcases h.c0 with ⟨hz, _⟩ | ⟨g, cap, c0, hc⟩
    · unfold nw at hz; omega
    · have hV := h.fit
      obtain ⟨f, hf⟩ : ∃ f, f = j / 64 := ⟨_, rfl⟩
      obtain ⟨r, hr⟩ : ∃ r, r = j % 64 := ⟨_, rfl⟩
      have hf' : (j : Int) / 64 = f := by omega
      have hr' : (j : Int) % 64 = r := by omega
      obtain ⟨K, hK⟩ : ∃ K, nw n = K := ⟨_, rfl⟩
      rw [hK] at c0 hc
      have hfK : f < K := by unfold nw at hK; omega
      have hKl : K ≤ 1099511627776 := by unfold nw at hK; omega
      have HH : Hid (f = j / 64 ∧ r = j % 64 ∧ V < 2 ^ n ∧ max i 0 = (j : Int) ∧ n ≤ 64 * K) := ⟨hf, hr, hV, hj, by unfold nw at hK; omega⟩
      have hr64 : r < 64 := by omega
      have hmin : min 64 r = r := by omega
      clear h hf hr hV hK
      go_enter Tryz.func84, Tryz.ntmps84
      go_wp2_with (first
        | (go_at_call 41; refine (row_len b n _ c1).mono ?_; rintro e w' ⟨rfl, rfl⟩)
        | (go_at_call 71; refine (mask _ _).mono ?_; rintro e w' ⟨rfl, rfl⟩))
      go_loop [27, 6] (fun c β => ∃ k B : Nat, k ≤ K - f ∧ c = .int .i64 k ∧ β = .int .u64 B ∧ Hid (B = if k = 0 then 2 ^ r - 1 else 0) ∧ Hid (∀ p : Nat, j ≤ p → p < 64 * (f + k) → V.testBit p = false)) (fun c _ => K - f - (intOf c).toNat)
      case atStart => exact ⟨0, _, Nat.zero_le _, rfl, rfl, Hid.mk rfl, Hid.mk fun p h1 h2 => by have := HH.out.1; omega⟩
      case round =>
        obtain ⟨k, B, hk, rfl, rfl, hB, hp⟩ := hrel
        have hw := next_word V j f k r B HH.out.1 HH.out.2.1 hB.out
        have hB2 : B < 18446744073709551616 := by
          rw [hB.out]; split
          · have := Nat.pow_le_pow_right (show 0 < 2 by decide) (show r ≤ 64 by omega)
            have := Nat.two_pow_pos r
            omega
          · decide
        have hand := u64_andNot_nat (wd V (f + k)) B (wd_lt _ _) hB2
        have hYl : wd V (f + k) &&& (18446744073709551615 - B) < 18446744073709551616 := Nat.lt_of_le_of_lt Nat.and_le_left (wd_lt _ _)
        generalize wd V (f + k) &&& (18446744073709551615 - B) = Y at hw hand hYl
        have HW : Hid _ := hw
        clear hw
        have hck : (k : Int) < (K : Int) - (f : Int) → w'.cell? ⟨g, f + k, none⟩ = some (.int .u64 (wd V (f + k) : Nat)) := fun h => hc _ (by omega)
        have HC : Hid _ := hc
        clear hc
        by_cases hY : Y = 0
        · subst hY
          go_wp2
          · refine ⟨⟨k + 1, 0, by omega, by go_num, rfl, Hid.mk (by simp), Hid.mk (next_step V j f k HW.out hp.out)⟩, ?_⟩
            simp [intOf]; omega
          · go_ret
            rw [next_done V n j K f k i HH.out.2.2.2.1 HH.out.2.2.2.2 (by omega) hp.out]
            exact ⟨rfl, rfl⟩
        · obtain ⟨q, m, hqm⟩ := lowest Y hY
          have hq : q < 64 := by
            apply Nat.lt_of_not_le
            intro h64
            have h1 : 2 ^ 64 ≤ 2 ^ q := Nat.pow_le_pow_right (by decide) h64
            have h2 : 2 ^ q * 1 ≤ 2 ^ q * (2 * m + 1) := Nat.mul_le_mul_left _ (by omega)
            omega
          have htz := tz q m (by omega) hq w' hT
          rw [← hqm] at htz
          have HQ : Hid _ := hqm
          have hY0 : ((Y : Int) != 0) = true := by simpa using hY
          clear hqm hY
          go_wp2_with (go_at_call 98; refine htz.mono ?_; rintro e w'' ⟨rfl, rfl⟩)
          · go_ret
            rw [← next_found V n j f k q m Y i HH.out.2.2.2.1 HH.out.2.2.1 hq HQ.out HW.out hp.out]
            exact ⟨rfl, rfl⟩
          · go_ret
            rw [next_done V n j K f k i HH.out.2.2.2.1 HH.out.2.2.2.2 (by omega) hp.out]
            exact ⟨rfl, rfl⟩

/-! ### slices.Clone and Words -/
/-- A slice of K words is read. -/
def Rd (w : World) (v : Value) (K : Nat) (f : Nat → Nat) : Prop :=
  (K = 0 ∧ ∃ ao cap, v = .slice ao 0 cap) ∨ ∃ g o cap, v = .slice (some ⟨g, o, none⟩) K cap ∧ g < w.heap.size ∧ ∀ j, j < K → w.cell? ⟨g, o + j, none⟩ = some (.int .u64 (f j : Nat))

theorem rd_of_own {w : World} {base : Nat} {v : Value} {K : Nat} {f : Nat → Nat} (h : w.ownsRow base 68 1 v K (u64s f K)) : Rd w v K f := by
  rcases h.2 with ⟨rfl, hn⟩ | ⟨g, cap, cur, rfl, _, hg, _⟩
  · exact .inl ⟨hn, _, _, rfl⟩
  · exact .inr ⟨g, 0, cap, rfl, lt_of_block hg, fun j hj => by rw [Nat.zero_add, h.cellAt j (by omega), u64s_get _ _ _ hj]⟩

set_option maxRecDepth 1000000 in
theorem clone (v : Value) (K : Nat) (f : Nat → Nat) (w : World) (h : Rd w v K f) (hK : K ≤ 1099511627776) :
    Calls Tryz.prog 72 #[v] w fun e w' => ∃ v', e = .returned v' ∧ w'.ownsRow w.heap.size 68 1 v' K (u64s f K) ∧ Keeps w.heap.size w w' := by
  obtain ⟨i0, hi, hz0, hz1, hz2⟩ := info_parts Tryz.info36
  have he : (w.alloc (.cells #[] 68)).ownsRow w.heap.size 68 1 (.slice (some ⟨w.heap.size, 0, none⟩) 0 0) 0 [] := World.ownsRow_lit w #[] 0 (Nat.le_refl _) (by decide) rfl
  have hke := (Keeps.refl w.heap.size w).alloc (Nat.le_refl _) (.cells #[] 68)
  rcases h with ⟨rfl, ao, cap, rfl⟩ | ⟨g, o, cap, rfl, hg, hc⟩
  · cases ao with
    | none =>
      clear he hke
      have hn : ∀ w : World, (binOp .eql 82 (.slice none 0 cap) (.slice none 0 0)).run Tryz.prog w = .ok (.bool true) w := fun _ => rfl
      go_enter Tryz.func72, Tryz.ntmps72
      go_wp2
      go_ret
      exact ⟨_, rfl, World.ownsRow_nil _ _ _ _, Keeps.refl _ _⟩
    | some a =>
      have hn : ∀ w : World, (binOp .eql 82 (.slice (some a) 0 cap) (.slice none 0 0)).run Tryz.prog w = .ok (.bool false) w := fun _ => rfl
      have HE : Hid _ := And.intro he hke
      clear he hke
      go_enter Tryz.func72, Tryz.ntmps72
      go_wp2_with (at_builtin; refine wpList_append_own _ rfl (.tmp 5) (.tmp 6) 82 rfl w.heap.size 68 i0 (.int .u64 0) 1 8 Tryz.underlying82 hi hz0 hz1 hz2 rfl (by decide) _ _ _ rfl HE.out.1 a 0 cap [] rfl rfl ?c1 ?c2 ?c3 ?c4 ?c5 ?_)
      case c1 => intro j y hj; simp at hj
      case c2 => intro y hy; simp at hy
      case c3 => decide
      case c4 => decide
      case c5 => simp
      · intro v' w1 hown hgrow _
        have hk := HE.out.2.grown hgrow (by simp) HE.out.1 (by decide)
        have HO : Hid _ := And.intro hown hk
        clear hown hgrow hk HE
        go_wp2
        go_ret
        exact ⟨_, rfl, HO.out.1, HO.out.2⟩
  · have hn : ∀ w : World, (binOp .eql 82 (.slice (some ⟨g, o, none⟩) K cap) (.slice none 0 0)).run Tryz.prog w = .ok (.bool false) w := fun _ => rfl
    have HE : Hid _ := And.intro he hke
    have hcc : ∀ (j : Nat) u, (u64s f K)[j]? = some u → (w.alloc (.cells #[] 68)).cell? ((⟨g, o, none⟩ : Addr).add j) = some u := by
      intro j u hu
      have hj : j < K := by have := (List.getElem?_eq_some_iff.1 hu).1; simpa [u64s_len] using this
      rw [u64s_get _ _ _ hj] at hu
      rw [Addr.add_lit, World.cell?_alloc_past _ _ _ hg, hc j hj]
      exact hu
    have HC : Hid _ := hcc
    clear he hke hc hcc
    go_enter Tryz.func72, Tryz.ntmps72
    go_wp2_with (at_builtin; refine wpList_append_own _ rfl (.tmp 5) (.tmp 6) 82 rfl w.heap.size 68 i0 (.int .u64 0) 1 8 Tryz.underlying82 hi hz0 hz1 hz2 rfl (by decide) _ _ _ rfl HE.out.1 ⟨g, o, none⟩ K cap (u64s f K) rfl (by rw [u64s_len, Nat.mul_one]) HC.out ?c2 ?c3 ?c4 ?c5 ?_)
    case c2 => intro y hy; simp [u64s] at hy; obtain ⟨_, _, rfl⟩ := hy; rfl
    case c3 => unfold maxLen; omega
    case c4 => omega
    case c5 => simp
    · intro v' w1 hown hgrow _
      have hk := HE.out.2.grown hgrow (by simp) HE.out.1 (by decide)
      have HO : Hid _ := And.intro hown hk
      clear hown hgrow hk HE
      go_wp2
      go_ret
      exact ⟨_, rfl, HO.out.1, HO.out.2⟩

theorem row_words (base b V n : Nat) (w : World) (h : RowAt w base b V n) : Calls Tryz.prog 73 #[.pointer (some ⟨b, 0, none⟩)] w fun e w' => ∃ v', e = .returned v' ∧ w'.ownsRow w.heap.size 68 1 v' (nw n) (u64s (wd V) (nw n)) ∧ Keeps w.heap.size w w' := by
  obtain ⟨v, hb, hown⟩ := h.mem
  have hl : nw n ≤ 1099511627776 := by have := h.len; unfold nw; omega
  obtain ⟨c0, c1, _, _⟩ := cells2 hb
  have hcl := clone v (nw n) (wd V) w (rd_of_own hown) hl
  obtain ⟨ao, K, cap, rfl⟩ : ∃ ao K cap, v = .slice ao K cap := by
    rcases hown.2 with ⟨h, _⟩ | ⟨g, cap, _, h, _⟩
    · exact ⟨_, _, _, h⟩
    · exact ⟨_, _, _, h⟩
  clear h hb hown
  go_enter Tryz.func73, Tryz.ntmps73
  go_wp2_with (go_at_call 72; refine hcl.mono ?_; rintro e w' ⟨v', rfl, hown, hk⟩; have HO : Hid _ := And.intro hown hk; clear hown hk)
  go_ret
  exact ⟨_, rfl, HO.out.1, HO.out.2⟩

theorem nil_words (w : World) : Calls Tryz.prog 73 #[.pointer none] w fun e w' => e = .returned (.slice none 0 0) ∧ w' = w := by
  go_enter Tryz.func73, Tryz.ntmps73
  go_wp2
  go_ret
  exact ⟨rfl, rfl⟩

end Go.Proofs.YtbjgbigalfhnjaaGreatDoor

namespace Go.Proofs.YtbjgbigalfhnjaaGreatDoor
open Go.RowKit

/-- What a row's pointer tells of its length; nil has none. -/
def PtrLen (w : World) (p : Value) (n : Nat) : Prop := (p = .pointer none ∧ n = 0) ∨ ∃ b, p = .pointer (some ⟨b, 0, none⟩) ∧ w.cell? ⟨b, 1, none⟩ = some (.int .i64 n)

theorem len_any (p : Value) (n : Nat) (w : World) (h : PtrLen w p n) : Calls Tryz.prog 41 #[p] w fun e w' => e = .returned (.int .i64 n) ∧ w' = w := by
  rcases h with ⟨rfl, rfl⟩ | ⟨b, rfl, c⟩
  · exact nil_len w
  · exact row_len b n w c

theorem PtrLen.row {w : World} {b V n : Nat} (h : RowRd w b V n) : PtrLen w (.pointer (some ⟨b, 0, none⟩)) n := .inr ⟨b, rfl, h.c1⟩
theorem PtrLen.none (w : World) : PtrLen w (.pointer none) 0 := .inl ⟨rfl, rfl⟩

end Go.Proofs.YtbjgbigalfhnjaaGreatDoor

namespace Go.Proofs.YtbjgbigalfhnjaaGreatDoor
open Go.RowKit

theorem above_zero (x u : Nat) (hu : u ≤ 64) (hx : x < 18446744073709551616) : x &&& (18446744073709551615 - (2 ^ u - 1)) = 0 ↔ x < 2 ^ u := by
  have hm : ∀ t, (18446744073709551615 - (2 ^ u - 1)).testBit t = (decide (t < 64) && !decide (t < u)) := by
    intro t
    have hB2 : 2 ^ u - 1 < 2 ^ 64 := by
      have := Nat.pow_le_pow_right (show 0 < 2 by decide) hu
      have := Nat.two_pow_pos u
      omega
    have := Nat.testBit_two_pow_sub_succ hB2 t
    rw [show 2 ^ 64 - (2 ^ u - 1 + 1) = 18446744073709551615 - (2 ^ u - 1) by omega, Nat.testBit_two_pow_sub_one] at this
    exact this
  constructor
  · intro h
    apply Nat.lt_pow_two_of_testBit
    intro i hi
    have h2 : (x &&& (18446744073709551615 - (2 ^ u - 1))).testBit i = false := by rw [h]; simp
    rw [Nat.testBit_and, hm] at h2
    by_cases h6 : i < 64
    · simpa [h6, show ¬ i < u by omega] using h2
    · exact bit_above (n := 64) hx (by omega)
  · intro h
    apply Nat.eq_of_testBit_eq
    intro i
    rw [Nat.testBit_and, hm, Nat.zero_testBit]
    by_cases h6 : i < u
    · simp [h6]
    · rw [bit_above h (by omega)]; rfl

theorem top_word (f : Nat → Nat) (n K : Nat) (hK : K = nw n) (hu : n % 64 ≠ 0) (hf : ∀ j, j < K → f j < 18446744073709551616) : ofW f K < 2 ^ n ↔ f (n / 64) < 2 ^ (n % 64) := by
  have hq : K = n / 64 + 1 := by unfold nw at hK; omega
  subst hq
  have hl := ofW_lt f (n / 64) fun j hj => hf j (by omega)
  have hn : 2 ^ n = 2 ^ (64 * (n / 64)) * 2 ^ (n % 64) := by rw [← Nat.pow_add]; congr 1; omega
  rw [ofW]
  constructor
  · intro h
    apply Nat.lt_of_not_le
    intro h2
    have := Nat.mul_le_mul_left (2 ^ (64 * (n / 64))) h2
    unfold cat at h
    omega
  · intro h
    have := cat_lt hl h
    rwa [show 64 * (n / 64) + n % 64 = n by omega] at this

theorem full_word (f : Nat → Nat) (n K : Nat) (hK : K = nw n) (hu : n % 64 = 0) (hf : ∀ j, j < K → f j < 18446744073709551616) : ofW f K < 2 ^ n := by
  have hl := ofW_lt f K hf
  rwa [show 64 * K = n by unfold nw at hK; omega] at hl

theorem of_short (v : Value) (K : Nat) (n : Int) (f : Nat → Nat) (w : World) (h : Rd w v K f) (hK : K ≤ 1099511627776) (hn : n ≤ 9223372036854775807) (hs : n < 0 ∨ K ≠ nw n.toNat) :
    Calls Tryz.prog 47 #[v, .int .i64 n] w fun e w' => e = .returned (.tuple #[.pointer none, .int .i64 1]) ∧ w' = w := by
  obtain ⟨ao, cap, rfl⟩ : ∃ ao cap, v = .slice ao K cap := by
    rcases h with ⟨rfl, ao, cap, rfl⟩ | ⟨g, o, cap, rfl, _⟩
    · exact ⟨_, _, rfl⟩
    · exact ⟨_, _, rfl⟩
  by_cases h0 : n < 0
  · clear h hs
    go_enter Tryz.func47, Tryz.ntmps47
    go_wp2
    go_ret2
    exact ⟨rfl, rfl⟩
  · obtain ⟨n, rfl⟩ := Int.eq_ofNat_of_zero_le (show 0 ≤ n by omega)
    have hne : ((K : Int) != ((nw n : Nat) : Int)) = true := by simp at hs ⊢; omega
    clear h hs h0
    go_enter Tryz.func47, Tryz.ntmps47
    go_wp2_with (go_at_call 70; refine (wordsOf n (by omega) _).mono ?_; rintro e w' ⟨rfl, rfl⟩)
    go_ret2
    exact ⟨rfl, rfl⟩

theorem rd_drewN {w : World} {v : Value} {K : Nat} {f : Nat → Nat} (h : Rd w v K f) (m : Nat) : Rd (w.drewN m) v K f := h

theorem shape_of {w : World} {base : Nat} {v : Value} {K e : Nat} {xs : List Value} (h : w.ownsRow base e 1 v K xs) : ∃ ao cap, v = .slice ao K cap := by
  rcases h.2 with ⟨h, hn⟩ | ⟨g, cap, _, h, _⟩
  · exact ⟨none, 0, by rw [h, hn]⟩
  · exact ⟨_, _, h⟩

/-- The row that has been made. -/
theorem of_end {w w1 : World} {K n : Nat} {f : Nat → Nat} {v : Value} (hown : w1.ownsRow w.heap.size 68 1 v K (u64s f K)) (hk : Keeps w.heap.size w w1) (hK : K = nw n) (hf : ∀ j, j < K → f j < 18446744073709551616) (hfit : ofW f K < 2 ^ n) (hn : n ≤ 1099511627776) :
    RowAt (w1.alloc (.cells #[v, .int .i64 n] 102)) w.heap.size w1.heap.size (ofW f K) n ∧ Keeps w.heap.size w (w1.alloc (.cells #[v, .int .i64 n] 102)) := by
  refine ⟨⟨hk.below.size, hfit, hn, v, heap_alloc_new _ _, ?_⟩, hk.alloc hk.below.size _⟩
  rw [← hK, u64s_congr (f := wd (ofW f K)) (g := f) fun i hi => ofW_wd f K hf i hi]
  exact hown.alloc _

set_option maxRecDepth 1000000 in
theorem of_row (v : Value) (K n : Nat) (f : Nat → Nat) (w : World) (h : Rd w v K f) (hf : ∀ j, j < K → f j < 18446744073709551616) (hn : n ≤ 1099511627776) (hK : K = nw n) (hfit : ofW f K < 2 ^ n) :
    Calls Tryz.prog 47 #[v, .int .i64 n] w fun e w' => ∃ b, e = .returned (.tuple #[.pointer (some ⟨b, 0, none⟩), .int .i64 0]) ∧ RowAt w' w.heap.size b (ofW f K) n ∧ Keeps w.heap.size w w' := by
  have hKl : K ≤ 1099511627776 := by unfold nw at hK; omega
  have hwo : ∀ w, Calls Tryz.prog 70 #[.int .i64 n] w fun e w' => e = .returned (.int .i64 K) ∧ w' = w := fun w => by rw [hK]; exact wordsOf n (by omega) w
  have hcl := fun (m : Nat) => clone v K f (w.drewN m) (rd_drewN h m) hKl
  have HH : Hid _ := And.intro hfit (And.intro hK hf)
  by_cases hu : n % 64 = 0
  · have hm : (n : Int) % 64 = 0 := by omega
    obtain ⟨ao, cap, rfl⟩ : ∃ ao cap, v = .slice ao K cap := by
      rcases h with ⟨rfl, ao, cap, rfl⟩ | ⟨g, o, cap, rfl, _⟩
      · exact ⟨_, _, rfl⟩
      · exact ⟨_, _, rfl⟩
    clear h hfit hf hu hK
    go_enter Tryz.func47, Tryz.ntmps47
    go_wp2_with (go_at_call 70; refine (hwo _).mono ?_; rintro e w' ⟨rfl, rfl⟩)
    go_quiet (fail)
    go_wp2_with (go_at_call 72; refine (hcl _).mono ?_; rintro e w1 ⟨v', rfl, hown, hk⟩; have HO : Hid _ := And.intro hown hk; clear hown hk; obtain ⟨ao', cap', rfl⟩ : ∃ ao cap, v' = .slice ao K cap := shape_of HO.out.1)
    go_ret2
    have E := of_end (w := w'.drewN nq) HO.out.1 HO.out.2 HH.out.2.1 HH.out.2.2 HH.out.1 hn
    exact ⟨_, rfl, E.1, ((Keeps.refl _ w').drewN nq).trans E.2⟩
  · have hlt := (top_word f n K hK hu hf).1 hfit
    obtain ⟨q, hq⟩ : ∃ q, n / 64 = q := ⟨_, rfl⟩
    obtain ⟨u, hu2⟩ : ∃ u, n % 64 = u := ⟨_, rfl⟩
    have hd : (n : Int) / 64 = q := by omega
    have hm : (n : Int) % 64 = u := by omega
    have hqK : q < K := by unfold nw at hK; omega
    rw [hq, hu2] at hlt
    have hu64 : u < 64 := by omega
    have hu0 : u ≠ 0 := by omega
    have hmin : min 64 u = u := by omega
    have hand : bits .andNot .u64 ((f q : Nat) : Int) ((2 ^ u - 1 : Nat) : Int) = 0 := by
      rw [u64_andNot_nat _ _ (hf q hqK) (by have := Nat.pow_le_pow_right (show 0 < 2 by decide) (show u ≤ 64 by omega); have := Nat.two_pow_pos u; omega), (above_zero _ _ (by omega) (hf q hqK)).2 hlt]
      rfl
    obtain ⟨g, o, cap, rfl, hg, hc⟩ : ∃ g o cap, v = .slice (some ⟨g, o, none⟩) K cap ∧ g < w.heap.size ∧ ∀ j, j < K → w.cell? ⟨g, o + j, none⟩ = some (.int .u64 (f j : Nat)) := by
      rcases h with ⟨rfl, _⟩ | h
      · omega
      · exact h
    have hcq := hc q hqK
    have hmk : ∀ w, Calls Tryz.prog 71 #[.int .i64 u] w fun e w' => e = .returned (.int .u64 (2 ^ u - 1 : Nat)) ∧ w' = w := fun w => by
      have := mask u w
      rwa [show min 64 (Int.toNat (u : Int)) = u by simp; omega] at this
    have hg0 : ((u : Int) != 0) = true := by simp; omega
    clear h hfit hf hu hK hc hlt hq hu2 hmin
    go_enter Tryz.func47, Tryz.ntmps47
    go_wp2_with (go_at_call 70; refine (hwo _).mono ?_; rintro e w' ⟨rfl, rfl⟩)
    go_quiet ((go_at_call 71; exact Calls.quiet_of_same (hmk _)))
    go_wp2_with (go_at_call 72; refine (hcl _).mono ?_; rintro e w1 ⟨v', rfl, hown, hk⟩; have HO : Hid _ := And.intro hown hk; clear hown hk; obtain ⟨ao', cap', rfl⟩ : ∃ ao cap, v' = .slice ao K cap := shape_of HO.out.1)
    go_ret2
    have E := of_end (w := w'.drewN nq) HO.out.1 HO.out.2 HH.out.2.1 HH.out.2.2 HH.out.1 hn
    exact ⟨_, rfl, E.1, ((Keeps.refl _ w').drewN nq).trans E.2⟩

set_option maxRecDepth 1000000 in
theorem of_form (v : Value) (K n : Nat) (f : Nat → Nat) (w : World) (h : Rd w v K f) (hf : ∀ j, j < K → f j < 18446744073709551616) (hn : n ≤ 1099511627776) (hK : K = nw n) (hfit : ¬ ofW f K < 2 ^ n) :
    Calls Tryz.prog 47 #[v, .int .i64 n] w fun e w' => e = .returned (.tuple #[.pointer none, .int .i64 3]) ∧ ∃ m, w' = w.drewN m := by
  have hu : n % 64 ≠ 0 := fun hu => hfit (full_word f n K hK hu hf)
  have hwo : ∀ w, Calls Tryz.prog 70 #[.int .i64 n] w fun e w' => e = .returned (.int .i64 K) ∧ w' = w := fun w => by rw [hK]; exact wordsOf n (by omega) w
  have hlt := mt (top_word f n K hK hu hf).2 hfit
  obtain ⟨q, hq⟩ : ∃ q, n / 64 = q := ⟨_, rfl⟩
  obtain ⟨u, hu2⟩ : ∃ u, n % 64 = u := ⟨_, rfl⟩
  have hd : (n : Int) / 64 = q := by omega
  have hm : (n : Int) % 64 = u := by omega
  have hqK : q < K := by unfold nw at hK; omega
  have hKl : K ≤ 1099511627776 := by unfold nw at hK; omega
  rw [hq, hu2] at hlt
  have hu64 : u < 64 := by omega
  have hu0 : u ≠ 0 := by omega
  have hand := u64_andNot_nat (f q) (2 ^ u - 1) (hf q hqK) (by have := Nat.pow_le_pow_right (show 0 < 2 by decide) (show u ≤ 64 by omega); have := Nat.two_pow_pos u; omega)
  have hY := mt (above_zero (f q) u (by omega) (hf q hqK)).1 hlt
  generalize f q &&& (18446744073709551615 - (2 ^ u - 1)) = Y at hand hY
  have hY0 : ((Y : Int) != 0) = true := by simpa using hY
  obtain ⟨g, o, cap, rfl, hg, hc⟩ : ∃ g o cap, v = .slice (some ⟨g, o, none⟩) K cap ∧ g < w.heap.size ∧ ∀ j, j < K → w.cell? ⟨g, o + j, none⟩ = some (.int .u64 (f j : Nat)) := by
    rcases h with ⟨rfl, _⟩ | h
    · omega
    · exact h
  have hcq := hc q hqK
  have hmk : ∀ w, Calls Tryz.prog 71 #[.int .i64 u] w fun e w' => e = .returned (.int .u64 (2 ^ u - 1 : Nat)) ∧ w' = w := fun w => by
    have := mask u w
    rwa [show min 64 (Int.toNat (u : Int)) = u by simp; omega] at this
  have hg0 : ((u : Int) != 0) = true := by simp; omega
  clear h hfit hf hu hK hc hlt hq hu2 hY
  go_enter Tryz.func47, Tryz.ntmps47
  go_wp2_with (go_at_call 70; refine (hwo _).mono ?_; rintro e w' ⟨rfl, rfl⟩)
  go_quiet ((go_at_call 71; exact Calls.quiet_of_same (hmk _)))
  go_wp2
  go_ret2
  exact ⟨rfl, _, rfl⟩

end Go.Proofs.YtbjgbigalfhnjaaGreatDoor
