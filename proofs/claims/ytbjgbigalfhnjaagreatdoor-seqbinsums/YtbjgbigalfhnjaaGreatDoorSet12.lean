/-
  elias: New, and what lies in memory of a sequence.
  A sequence's bits, plainly: the low bits, and behind them the high ones; what any bits are as a sequence.
-/
import Derived.Test.YtbjgbigalfhnjaaGreatDoorSet11
import Derived.Test.YtbjgbigalfhnjaaGreatDoorSet01
namespace Go.Proofs.YtbjgbigalfhnjaaGreatDoor
open Go.RowKit

/-- What is wrong with the first k numbers, as an error's number; 0: nothing. -/
def wrg (g : Nat → Int) : Nat → Int
  | 0 => 0
  | k + 1 => if wrg g k ≠ 0 then wrg g k else if g k < 0 ∨ 1099511627776 < g k then 8 else if 0 < k ∧ g k < g (k - 1) then 9 else 0
theorem wrg_keeps (g : Nat → Int) {k K : Nat} (hk : k ≤ K) (h : wrg g k ≠ 0) : wrg g K = wrg g k := by
  induction K with
  | zero => obtain rfl : k = 0 := by omega
            rfl
  | succ K ih =>
    by_cases e : k = K + 1
    · subst e; rfl
    · have i := ih (by omega)
      rw [wrg, if_pos (by rw [i]; exact h), i]
theorem wrg_below (g : Nat → Int) {k K : Nat} (hk : k ≤ K) (h : wrg g K = 0) : wrg g k = 0 := by
  by_cases h0 : wrg g k = 0
  · exact h0
  · rw [wrg_keeps g hk h0] at h; exact absurd h h0
theorem wrg_range (g : Nat → Int) (K : Nat) : 0 ≤ wrg g K ∧ wrg g K ≤ 9 := by
  induction K with
  | zero => simp [wrg]
  | succ K ih => rw [wrg]; split; exact ih; split; omega; split <;> omega
/-- The number ahead of the k-th one; 0: there is none. -/
def lastZ (g : Nat → Int) : Nat → Int
  | 0 => 0
  | k + 1 => g k
theorem wrg_at (g : Nat → Int) (k : Nat) (h : wrg g (k + 1) = 0) : 0 ≤ g k ∧ g k ≤ 1099511627776 ∧ lastZ g k ≤ g k := by
  have h0 := wrg_below g (Nat.le_succ k) h
  rw [wrg, if_neg (by omega)] at h
  by_cases h1 : g k < 0 ∨ 1099511627776 < g k
  · rw [if_pos h1] at h; omega
  · rw [if_neg h1] at h
    refine ⟨by omega, by omega, ?_⟩
    cases k with
    | zero => simp only [lastZ]; omega
    | succ k =>
      by_cases h2 : 0 < k + 1 ∧ g (k + 1) < g (k + 1 - 1)
      · rw [if_pos h2] at h; omega
      · simp only [lastZ]; simp at h2; omega
theorem wrg_climbs (g : Nat → Int) (K : Nat) (h : wrg g K = 0) : (∀ j, j < K → g j = ((g j).toNat : Nat)) ∧ Climbs (fun j => (g j).toNat) K := by
  have a := fun j (hj : j < K) => wrg_at g j (wrg_below g hj h)
  refine ⟨fun j hj => by have := a j hj; omega, fun j hj => by have := a j hj; omega, fun j hj => ?_⟩
  have h1 := (a (j + 1) hj).2.2
  simp only [lastZ] at h1
  omega

theorem el_new_bad (v : Value) (K : Nat) (g : Nat → Int) (w : World) (h : ZRd w v K g) (hK : K ≤ 1000000) (hw : wrg g K ≠ 0) :
    Calls Tryz.prog 20 #[v] w fun e w' => e = .returned (.tuple #[.pointer none, .int .i64 (wrg g K)]) ∧ w' = w := by
  obtain ⟨ao, cap, rfl⟩ := h.shape
  have HH := Hid.mk (And.intro h hw)
  clear h hw
  go_enter Tryz.func20, Tryz.ntmps20
  go_wp2
  go_loop [4, 10] (fun s i => ∃ k : Nat, k ≤ K ∧ i = .int .i64 k ∧ s = .int .i64 (lastZ g k) ∧ Hid (wrg g k = 0)) (fun _ i => K - (intOf i).toNat)
  case atStart => exact ⟨0, Nat.zero_le _, rfl, rfl, Hid.mk rfl⟩
  case round =>
    obtain ⟨k, hk, rfl, rfl, HR⟩ := hrel
    by_cases hkK : k < K
    · obtain ⟨b, o, rfl, hc⟩ := HH.out.1.cell (w' := w) k hkK
      have hck := hc (Below.refl _ _)
      clear hc
      obtain ⟨x, hx⟩ : ∃ x, g k = x := ⟨_, rfl⟩
      obtain ⟨y, hy⟩ : ∃ y, lastZ g k = y := ⟨_, rfl⟩
      rw [hx] at hck
      rw [hy]
      have HX := Hid.mk (And.intro hx hy)
      clear hx hy
      by_cases h1 : x < 0 ∨ 1099511627776 < x
      · have he : Hid (wrg g K = 8) := Hid.mk (by
          have e : wrg g (k + 1) = 8 := by rw [wrg, if_neg (by have := HR.out; omega), HX.out.1, if_pos h1]
          rw [wrg_keeps g (k := k + 1) hkK (by omega), e])
        rcases (show x < 0 ∨ (¬ x < 0 ∧ 1099511627776 < x) by omega) with h2 | ⟨h2, h3⟩
        all_goals
          clear h1
          go_wp2
          go_ret2
          exact ⟨by rw [he.out]; rfl, rfl⟩
      · have hx0 : ¬ x < 0 := by omega
        have hx1 : ¬ 1099511627776 < x := by omega
        by_cases h4 : x < y
        · have he : Hid (wrg g K = 9) := Hid.mk (by
            have e : wrg g (k + 1) = 9 := by
              rw [wrg, if_neg (by have := HR.out; omega), HX.out.1, if_neg h1, if_pos ?_]
              cases k with
              | zero => have := HX.out.2; simp only [lastZ] at this; omega
              | succ k => have := HX.out.2; simp only [lastZ] at this; exact ⟨by omega, by simpa [this] using h4⟩
            rw [wrg_keeps g (k := k + 1) hkK (by omega), e])
          clear h1
          go_wp2
          go_ret2
          exact ⟨by rw [he.out]; rfl, rfl⟩
        · have he : Hid (wrg g (k + 1) = 0) := Hid.mk (by
            rw [wrg, if_neg (by have := HR.out; omega), HX.out.1, if_neg h1, if_neg ?_]
            cases k with
            | zero => omega
            | succ k => have := HX.out.2; simp only [lastZ] at this; simp [this]; omega)
          clear h1
          go_wp2
          exact ⟨⟨k + 1, by omega, by go_num, by rw [lastZ, HX.out.1], he⟩, by simp [intOf]; omega⟩
    · obtain rfl : k = K := by omega
      exact absurd HR.out HH.out.2

/-- The last of the first n numbers; 0: there is none. -/
def lst (f : Nat → Nat) : Nat → Nat
  | 0 => 0
  | k + 1 => f k
theorem lst_le {f : Nat → Nat} {n : Nat} (h : Climbs f n) : lst f n ≤ 1099511627776 := by
  cases n with
  | zero => simp [lst]
  | succ n => exact h.top n (Nat.lt_succ_self n)
/-- Their low width. -/
def wdt (f : Nat → Nat) (n : Nat) : Nat := lowN n (lst f n)
theorem wdt_le {f : Nat → Nat} {n : Nat} (h : Climbs f n) : wdt f n ≤ 40 := low_le _ _ (lst_le h)
theorem hN_bound {f : Nat → Nat} {n : Nat} (h : Climbs f n) : hN f (wdt f n) n ≤ 3 * n := by
  cases n with
  | zero => simp [hN]
  | succ n =>
    have h1 := low_half (n + 1) (f n) (by omega) (by have := h.top n (Nat.lt_succ_self n); omega)
    rw [hN, show wdt f (n + 1) = lowN (n + 1) (f n) from rfl]; unfold hp; omega

/-- The sequence of the first n numbers lies at block s, from block 'base' on. -/
structure SeqAt (w : World) (base s : Nat) (f : Nat → Nat) (n : Nat) : Prop where
  climbs : Climbs f n
  num : n ≤ 4000
  mem : ∃ p d, w.heap[s]? = some (.cells #[.pointer (some ⟨p, 0, none⟩), .pointer (some ⟨d, 0, none⟩)] 91 (0, 0)) ∧ PackAt w base p (packV (wdt f n) (fun i => f i % 2 ^ wdt f n) n) (wdt f n) n ∧ SDirAt w base d (hV f (wdt f n) n) (hN f (wdt f n) n)
theorem SeqAt.more {w w' : World} {base s : Nat} {f : Nat → Nat} {n : Nat} (h : SeqAt w base s f n) (k : More w w') : SeqAt w' base s f n := by
  obtain ⟨p, d, hs, hp, hd⟩ := h.mem
  exact ⟨h.climbs, h.num, p, d, by rw [k.block s (lt_of_block hs)]; exact hs, hp.more k, hd.more k⟩

set_option maxHeartbeats 800000 in
set_option maxRecDepth 1000000 in
theorem el_new (v : Value) (K : Nat) (f : Nat → Nat) (w : World) (h : ZRd w v K (fun j => (f j : Int))) (hC : Climbs f K) (hK : K ≤ 4000) :
    Calls Tryz.prog 20 #[v] w fun e w' => ∃ s, e = .returned (.tuple #[.pointer (some ⟨s, 0, none⟩), .int .i64 0]) ∧ SeqAt w' w.heap.size s f K ∧ More w w' := by
  obtain ⟨ao, cap, rfl⟩ := h.shape
  have hd := wdt_le hC
  have hb := hN_bound hC
  have hlow := fun w => el_low (K : Int) (lst f K : Nat) (by have := lst_le hC; omega) w
  rw [lowZ_nat, show lowN K (lst f K) = wdt f K from rfl] at hlow
  have hlp := fun w1 (hm : More w w1) => el_lowPart _ K (wdt f K) f w1 (h.more hm) hC.top (by omega) hK
  have hhp := fun w1 (hm : More w w1) => el_highPart _ K (wdt f K) f w1 (h.more hm) hC (by omega) hK (by omega)
  obtain ⟨D, hD⟩ : ∃ D, wdt f K = D := ⟨_, rfl⟩
  obtain ⟨U, hU⟩ : ∃ U, lst f K = U := ⟨_, rfl⟩
  rw [hD] at hlow hlp hhp
  rw [hU] at hlow
  have HH := Hid.mk (And.intro h (And.intro hC (And.intro hD hU)))
  clear h hC hD hU hb hd
  go_enter Tryz.func20, Tryz.ntmps20
  go_wp2
  go_loop [4, 10] (fun s i => ∃ k y : Nat, k ≤ K ∧ i = .int .i64 k ∧ s = .int .i64 y ∧ Hid (y = lst f k)) (fun _ i => K - (intOf i).toNat)
  case atStart => exact ⟨0, 0, Nat.zero_le _, rfl, rfl, Hid.mk rfl⟩
  case round =>
    obtain ⟨k, y, hk, rfl, rfl, HR⟩ := hrel
    by_cases hkK : k < K
    · obtain ⟨b, o, rfl, hc⟩ := HH.out.1.cell (w' := w) k hkK
      have hck := hc (Below.refl _ _)
      clear hc
      have htop := HH.out.2.1.top k hkK
      have hup : ¬ f k < y := by
        rw [HR.out]
        cases k with
        | zero => simp [lst]
        | succ k => have := HH.out.2.1.up k hkK; simp only [lst]; omega
      obtain ⟨x, hx⟩ : ∃ x, f k = x := ⟨_, rfl⟩
      rw [hx] at hck htop hup
      have HX := Hid.mk hx
      clear hx
      go_wp2
      exact ⟨⟨k + 1, x, by omega, by go_num, rfl, Hid.mk (by rw [lst, HX.out])⟩, by simp [intOf]; omega⟩
    · obtain rfl : k = K := by omega
      obtain rfl : y = U := by rw [HR.out, HH.out.2.2.2]
      clear hkK hk
      go_wp2_with (first
        | (go_at_call 50; refine (hlow _).mono ?_; rintro e w' ⟨rfl, hw⟩; subst w'; clear hlow)
        | (go_at_call 53; refine (hlp _ (Below.refl _ _)).mono ?_; rintro e w1 ⟨p, rfl, hp, hm⟩; have H1 := Hid.mk (And.intro hp hm); clear hp hm hlp)
        | (go_at_call 55; refine (hhp _ H1.out.2).mono ?_; rintro e w2 ⟨b, rfl, hr, hm⟩; have H2 := Hid.mk (And.intro hr hm); clear hr hm hhp)
        | (go_at_call 54; refine (sdir_new _ _ _ w2 (fun w' hm => RowOr.row (hm.row H2.out.1))).mono ?_; rintro e w3 ⟨d, rfl, hd, hm⟩; have H3 := Hid.mk (And.intro hd hm); clear hd hm))
      go_ret2
      have h13 := More.trans H2.out.2 H3.out.2
      have h03 := More.trans H1.out.2 h13
      refine ⟨_, rfl, ⟨HH.out.2.1, hK, p, d, heap_alloc_new _ _, ?_, ?_⟩, h03.alloc h03.size _⟩
      · rw [HH.out.2.2.1]; exact (H1.out.1.more h13).more (more_alloc _ _)
      · rw [HH.out.2.2.1]; exact (H3.out.1.lower (More.trans H1.out.2 H2.out.2).size).more (more_alloc _ _)

end Go.Proofs.YtbjgbigalfhnjaaGreatDoor

namespace Go.Proofs.YtbjgbigalfhnjaaGreatDoor
open Go.RowKit

/-- All bits of n numbers with the low width d. -/
def seqV (f : Nat → Nat) (d n : Nat) : Nat := cat (packV d (fun i => f i % 2 ^ d) n) (d * n) (hV f d n)
def seqN (f : Nat → Nat) (d n : Nat) : Nat := d * n + hN f d n
theorem lows_lt (f : Nat → Nat) (d n : Nat) : packV d (fun i => f i % 2 ^ d) n < 2 ^ (d * n) := packV_lt d _ n fun _ _ => Nat.mod_lt _ (Nat.two_pow_pos d)
theorem seqV_lt {f : Nat → Nat} {n : Nat} (h : Climbs f n) (d : Nat) : seqV f d n < 2 ^ seqN f d n := cat_lt (lows_lt f d n) (hV_lt h d (Nat.le_refl _))
theorem seqN_le {f : Nat → Nat} {n : Nat} (h : Climbs f n) : seqN f (wdt f n) n ≤ 43 * n := by
  have h1 := hN_bound h
  have h2 := Nat.mul_le_mul_right n (wdt_le h)
  unfold seqN
  omega
/-- A sequence's bytes. -/
def seqB (f : Nat → Nat) (n : Nat) : List UInt8 := if n = 0 then num 0 else num n ++ (num (lst f n) ++ rby (seqV f (wdt f n) n) (seqN f (wdt f n) n))
theorem seqB_none (f : Nat → Nat) : seqB f 0 = num 0 := if_pos rfl
theorem seqB_some (f : Nat → Nat) {n : Nat} (h : n ≠ 0) : seqB f n = num n ++ (num (lst f n) ++ rby (seqV f (wdt f n) n) (seqN f (wdt f n) n)) := if_neg h
theorem lst_pos (f : Nat → Nat) {n : Nat} (h : n ≠ 0) : lst f n = f (n - 1) := by
  cases n with
  | zero => exact absurd rfl h
  | succ n => rfl

theorem pl_is (U n k : Nat) (h : k < rk U n) : U.testBit (pl U n k) = true ∧ rk U (pl U n k) = k := by
  obtain ⟨p, hp, hb, hk⟩ := sel_in U n k h
  have h1 := pl_step U n p hp (bit_one.1 hb)
  rw [hk] at h1
  rw [h1]
  exact ⟨bit_one.1 hb, hk⟩
theorem pl_le (U n k : Nat) (h : k < rk U n) : k ≤ pl U n k := by
  have h1 := rk_le U (pl U n k)
  rw [(pl_is U n k h).2] at h1
  exact h1
theorem shr_bit (V s j : Nat) : (V / 2 ^ s).testBit j = V.testBit (s + j) := by rw [Nat.testBit_div_two_pow, Nat.add_comm]
/-- A one is counted behind it. -/
theorem rk_past (U : Nat) {p q : Nat} (hb : U.testBit p = true) (h : p < q) : rk U p + 1 ≤ rk U q := by
  have h1 := rk_mono U (show p + 1 ≤ q from h)
  rw [rk_step, if_pos hb] at h1
  exact h1
/-- The next one from a place on, of the bits behind s. -/
theorem next_in (V s y M k : Nat) (hk : rk (V / 2 ^ s) y = k) (h : k < rk (V / 2 ^ s) M) : nextV V ((s + y : Nat) : Int) (s + M) = ((s + pl (V / 2 ^ s) M k : Nat) : Int) ∧ rk (V / 2 ^ s) (pl (V / 2 ^ s) M k + 1) = k + 1 := by
  obtain ⟨h1, h2⟩ := pl_is _ _ _ h
  have h3 := pl_lt _ _ _ h
  have hy : y ≤ pl (V / 2 ^ s) M k := Nat.le_of_not_lt fun hlt => by
    have := rk_past _ h1 hlt
    omega
  refine ⟨nextV_of V _ _ _ (by omega) (by omega) (by rw [← shr_bit]; exact h1) fun q hq hf => ?_, by rw [rk_step, if_pos h1, h2]⟩
  obtain ⟨j, rfl⟩ : ∃ j, q = s + j := ⟨q - s, by omega⟩
  rw [← shr_bit]
  cases hb : (V / 2 ^ s).testBit j with
  | false => rfl
  | true =>
    have h4 := rk_past _ hb (show j < pl (V / 2 ^ s) M k by omega)
    have h5 := rk_mono (V / 2 ^ s) (show y ≤ j by omega)
    omega
theorem next_out (V s y M : Nat) (h : rk (V / 2 ^ s) M ≤ rk (V / 2 ^ s) y) : nextV V ((s + y : Nat) : Int) (s + M) = -1 := by
  refine nextV_none V _ _ fun p hp hf => ?_
  obtain ⟨j, rfl⟩ : ∃ j, p = s + j := ⟨p - s, by omega⟩
  rw [← shr_bit]
  cases hb : (V / 2 ^ s).testBit j with
  | false => rfl
  | true =>
    have h4 := rk_past _ hb (show j < M by omega)
    have h5 := rk_mono (V / 2 ^ s) (show y ≤ j by omega)
    omega

/-- The i-th number that bits have: n low parts of d bits, behind them M bits. -/
def gN (V d n M i : Nat) : Nat := (pl (V / 2 ^ (d * n)) M i - i) * 2 ^ d + V / 2 ^ (d * i) % 2 ^ d
/-- How many numbers they have, n at the most. -/
def gC (V d n M : Nat) : Nat := min n (rk (V / 2 ^ (d * n)) M)
theorem gN_high (V d n M i : Nat) : gN V d n M i / 2 ^ d = pl (V / 2 ^ (d * n)) M i - i := by
  unfold gN
  rw [Nat.mul_comm, Nat.mul_add_div (Nat.two_pow_pos d), Nat.div_eq_of_lt (Nat.mod_lt _ (Nat.two_pow_pos d)), Nat.add_zero]
theorem gN_low (V d n M i : Nat) : gN V d n M i % 2 ^ d = V / 2 ^ (d * i) % 2 ^ d := by
  unfold gN
  rw [Nat.mul_comm, Nat.mul_add_mod, Nat.mod_mod]
/-- The high part's ones are the numbers' places alone. -/
theorem hV_ones {f : Nat → Nat} {n : Nat} (h : Climbs f n) (d j : Nat) (hb : (hV f d n).testBit j = true) : ∃ c, c < n ∧ hp f d c = j := by
  have h1 := rk_step (hV f d n) j
  rw [if_pos hb, rk_hV h d j (Nat.le_refl _), rk_hV h d (j + 1) (Nat.le_refl _)] at h1
  have h2 := bel_le (hp f d) (j + 1) n
  obtain ⟨_, h4⟩ := bel_parts (hp_up h d) j
  obtain ⟨h5, _⟩ := bel_parts (hp_up h d) (j + 1)
  have h6 := h4 (bel (hp f d) j n) (Nat.le_refl _) (by omega)
  have h7 := h5 (bel (hp f d) j n) (by omega)
  exact ⟨bel (hp f d) j n, by omega, by omega⟩
/-- Numbers that bits have, all of them, the last one as it was told: their bits are these. -/
theorem got_same (V d n u : Nat) (hn : n ≠ 0) (hc : n ≤ rk (V / 2 ^ (d * n)) (n + u / 2 ^ d)) (hl : gN V d n (n + u / 2 ^ d) (n - 1) = u) (hC : Climbs (gN V d n (n + u / 2 ^ d)) n) (hV : V < 2 ^ (d * n + (n + u / 2 ^ d))) :
    seqV (gN V d n (n + u / 2 ^ d)) d n = V ∧ seqN (gN V d n (n + u / 2 ^ d)) d n = d * n + (n + u / 2 ^ d) := by
  obtain ⟨M, hM⟩ : ∃ M, n + u / 2 ^ d = M := ⟨_, rfl⟩
  rw [hM] at hc hl hC hV ⊢
  obtain ⟨H, hH⟩ : ∃ H, V / 2 ^ (d * n) = H := ⟨_, rfl⟩
  have hhp : ∀ k, k < n → hp (gN V d n M) d k = pl H M k := fun k hk => by
    unfold hp
    rw [gN_high, hH]
    have := pl_le H M k (by rw [← hH]; omega)
    omega
  have hlast : pl H M (n - 1) + 1 = M := by
    have h1 := gN_high V d n M (n - 1)
    rw [hl, hH] at h1
    have h2 := pl_le H M (n - 1) (by rw [← hH]; omega)
    omega
  have hN : hN (gN V d n M) d n = M := by
    obtain ⟨m, rfl⟩ : ∃ m, n = m + 1 := ⟨n - 1, by omega⟩
    rw [hN, hhp m (by omega)]
    exact hlast
  have hHlt : H < 2 ^ M := by
    rw [← hH, Nat.div_lt_iff_lt_mul (Nat.two_pow_pos _), ← Nat.pow_add, Nat.add_comm]
    exact hV
  have hhV : Go.Proofs.YtbjgbigalfhnjaaGreatDoor.hV (gN V d n M) d n = H := by
    apply Nat.eq_of_testBit_eq
    intro j
    cases hb : H.testBit j with
    | true =>
      have hj : j < M := Nat.lt_of_not_le fun h => by rw [bit_above hHlt h] at hb; cases hb
      have hk : rk H j < n := by
        rcases Nat.lt_or_ge j (pl H M (n - 1)) with h | h
        · have h1 := rk_past H hb h
          rw [(pl_is H M (n - 1) (by rw [← hH]; omega)).2] at h1
          omega
        · have hj2 : j = pl H M (n - 1) := by omega
          rw [hj2, (pl_is H M (n - 1) (by rw [← hH]; omega)).2]
          omega
      have h1 := hp_bit hC d hk
      rw [hhp _ hk, pl_step H M j hj hb] at h1
      exact h1
    | false =>
      cases hb2 : (Go.Proofs.YtbjgbigalfhnjaaGreatDoor.hV (gN V d n M) d n).testBit j with
      | false => rfl
      | true =>
        obtain ⟨c, hcn, hcj⟩ := hV_ones hC d j hb2
        rw [hhp c hcn] at hcj
        rw [← hcj, (pl_is H M c (by rw [← hH]; omega)).1] at hb
        cases hb
  refine ⟨?_, by unfold seqN; rw [hN]⟩
  unfold seqV
  rw [hhV, packV_congr d n (fun j _ => gN_low V d n M j), packV_of, ← hH]
  unfold cat
  exact Nat.div_add_mod V _
theorem cat_high {L s H : Nat} (h : L < 2 ^ s) : cat L s H / 2 ^ s = H := by
  unfold cat
  rw [Nat.mul_add_div (Nat.two_pow_pos s), Nat.div_eq_of_lt h, Nat.add_zero]
theorem cat_part {L s H a d : Nat} (h : L < 2 ^ s) (hs : a + d ≤ s) : cat L s H / 2 ^ a % 2 ^ d = L / 2 ^ a % 2 ^ d := by
  apply Nat.eq_of_testBit_eq
  intro j
  rw [Nat.testBit_mod_two_pow, Nat.testBit_mod_two_pow, shr_bit, shr_bit, cat_bit H h]
  by_cases hj : j < d
  · rw [if_pos (by omega)]
  · simp [hj]
/-- A sequence's bits are got as its numbers. -/
theorem got_back {f : Nat → Nat} {n : Nat} (h : Climbs f n) (hn : n ≠ 0) (d : Nat) : hN f d n = n + f (n - 1) / 2 ^ d ∧ n ≤ rk (seqV f d n / 2 ^ (d * n)) (n + f (n - 1) / 2 ^ d) ∧ ∀ i, i < n → gN (seqV f d n) d n (n + f (n - 1) / 2 ^ d) i = f i := by
  have hN' : hN f d n = n + f (n - 1) / 2 ^ d := by
    obtain ⟨m, rfl⟩ : ∃ m, n = m + 1 := ⟨n - 1, by omega⟩
    rw [hN, hp, show m + 1 - 1 = m by omega]
    omega
  have hH : seqV f d n / 2 ^ (d * n) = hV f d n := cat_high (lows_lt f d n)
  refine ⟨hN', by rw [hH, ← hN', rk_all h]; exact Nat.le_refl _, fun i hi => ?_⟩
  unfold gN
  rw [hH, ← hN', pl_hp h d hi]
  have hlow : seqV f d n / 2 ^ (d * i) % 2 ^ d = f i % 2 ^ d := by
    unfold seqV
    rw [cat_part (lows_lt f d n) (by rw [← Nat.mul_succ]; exact Nat.mul_le_mul_left d hi)]
    exact packV_cut d _ n i (fun j _ => Nat.mod_lt _ (Nat.two_pow_pos d)) hi
  rw [hlow]
  unfold hp
  rw [Nat.add_sub_cancel, Nat.mul_comm]
  exact Nat.div_add_mod _ _
/-- No number is great. -/
theorem gN_le (V d n u i : Nat) (hi : i < rk (V / 2 ^ (d * n)) (n + u / 2 ^ d)) : gN V d n (n + u / 2 ^ d) i < (n + u / 2 ^ d) * 2 ^ d := by
  have h1 := pl_lt _ _ _ hi
  have h2 : V / 2 ^ (d * i) % 2 ^ d < 2 ^ d := Nat.mod_lt _ (Nat.two_pow_pos d)
  unfold gN
  have h3 : (pl (V / 2 ^ (d * n)) (n + u / 2 ^ d) i - i + 1) * 2 ^ d ≤ (n + u / 2 ^ d) * 2 ^ d := Nat.mul_le_mul_right _ (by omega)
  rw [Nat.add_mul, Nat.one_mul] at h3
  omega
theorem low_mul (n u : Nat) (hn : 1 ≤ n) (h64 : u < 18446744073709551616) : n * 2 ^ lowN n u ≤ n + u := by
  by_cases h : u < n
  · rw [low_small n u h]; omega
  · have h1 := (low_iff n u (lowN n u) hn (by omega) h64).2 (Nat.le_refl _)
    have h2 := Nat.mul_le_mul_right (2 ^ lowN n u) h1
    have h3 := Nat.div_mul_le_self u (2 ^ lowN n u)
    omega

end Go.Proofs.YtbjgbigalfhnjaaGreatDoor
