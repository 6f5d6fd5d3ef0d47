/-
  elias: New, and what lies in memory of a sequence.
-/
import Derived.Test.YtgcaenpflndibaaDoorEliasC
namespace Go.Proofs.YtgcaenpflndibaaDoor
open Go.RowKit

/-- What is wrong with the first k numbers, as an error's number; 0: nothing. -/
def wrg (g : Nat → Int) : Nat → Int
  | 0 => 0
  | k + 1 => if wrg g k ≠ 0 then wrg g k else if g k < 0 ∨ 1099511627776 < g k then 8 else if 0 < k ∧ g k < g (k - 1) then 9 else 0
theorem wrg_keeps (g : Nat → Int) {k K : Nat} (hk : k ≤ K) (h : wrg g k ≠ 0) : wrg g K = wrg g k := by
  induction K with
  | zero => obtain rfl : k = 0 := by omega
            rfl
  | succ K ih =>
    by_cases e : k = K + 1
    · subst e; rfl
    · have i := ih (by omega)
      rw [wrg, if_pos (by rw [i]; exact h), i]
theorem wrg_below (g : Nat → Int) {k K : Nat} (hk : k ≤ K) (h : wrg g K = 0) : wrg g k = 0 := by
  by_cases h0 : wrg g k = 0
  · exact h0
  · rw [wrg_keeps g hk h0] at h; exact absurd h h0
theorem wrg_range (g : Nat → Int) (K : Nat) : 0 ≤ wrg g K ∧ wrg g K ≤ 9 := by
  induction K with
  | zero => simp [wrg]
  | succ K ih => rw [wrg]; split; exact ih; split; omega; split <;> omega
/-- The number ahead of the k-th one; 0: there is none. -/
def lastZ (g : Nat → Int) : Nat → Int
  | 0 => 0
  | k + 1 => g k
theorem wrg_at (g : Nat → Int) (k : Nat) (h : wrg g (k + 1) = 0) : 0 ≤ g k ∧ g k ≤ 1099511627776 ∧ lastZ g k ≤ g k := by
  have h0 := wrg_below g (Nat.le_succ k) h
  rw [wrg, if_neg (by omega)] at h
  by_cases h1 : g k < 0 ∨ 1099511627776 < g k
  · rw [if_pos h1] at h; omega
  · rw [if_neg h1] at h
    refine ⟨by omega, by omega, ?_⟩
    cases k with
    | zero => simp only [lastZ]; omega
    | succ k =>
      by_cases h2 : 0 < k + 1 ∧ g (k + 1) < g (k + 1 - 1)
      · rw [if_pos h2] at h; omega
      · simp only [lastZ]; simp at h2; omega
theorem wrg_climbs (g : Nat → Int) (K : Nat) (h : wrg g K = 0) : (∀ j, j < K → g j = ((g j).toNat : Nat)) ∧ Climbs (fun j => (g j).toNat) K := by
  have a := fun j (hj : j < K) => wrg_at g j (wrg_below g hj h)
  refine ⟨fun j hj => by have := a j hj; omega, fun j hj => by have := a j hj; omega, fun j hj => ?_⟩
  have h1 := (a (j + 1) hj).2.2
  simp only [lastZ] at h1
  omega

theorem el_new_bad (v : Value) (K : Nat) (g : Nat → Int) (w : World) (h : ZRd w v K g) (hK : K ≤ 1000000) (hw : wrg g K ≠ 0) :
    Calls Tryd.prog 13 #[v] w fun e w' => e = .returned (.tuple #[.pointer none, .int .i64 (wrg g K)]) ∧ w' = w := by
  obtain ⟨ao, cap, rfl⟩ := h.shape
  have HH := Hid.mk (And.intro h hw)
  clear h hw
  go_enter Tryd.func13, Tryd.ntmps13
  go_wp2
  go_loop [4, 10] (fun s i => ∃ k : Nat, k ≤ K ∧ i = .int .i64 k ∧ s = .int .i64 (lastZ g k) ∧ Hid (wrg g k = 0)) (fun _ i => K - (intOf i).toNat)
  case atStart => exact ⟨0, Nat.zero_le _, rfl, rfl, Hid.mk rfl⟩
  case round =>
    obtain ⟨k, hk, rfl, rfl, HR⟩ := hrel
    by_cases hkK : k < K
    · obtain ⟨b, o, rfl, hc⟩ := HH.out.1.cell (w' := w) k hkK
      have hck := hc (Below.refl _ _)
      clear hc
      obtain ⟨x, hx⟩ : ∃ x, g k = x := ⟨_, rfl⟩
      obtain ⟨y, hy⟩ : ∃ y, lastZ g k = y := ⟨_, rfl⟩
      rw [hx] at hck
      rw [hy]
      have HX := Hid.mk (And.intro hx hy)
      clear hx hy
      by_cases h1 : x < 0 ∨ 1099511627776 < x
      · have he : Hid (wrg g K = 8) := Hid.mk (by
          have e : wrg g (k + 1) = 8 := by rw [wrg, if_neg (by have := HR.out; omega), HX.out.1, if_pos h1]
          rw [wrg_keeps g (k := k + 1) hkK (by omega), e])
        rcases (show x < 0 ∨ (¬ x < 0 ∧ 1099511627776 < x) by omega) with h2 | ⟨h2, h3⟩
        all_goals
          clear h1
          go_wp2
          go_ret2
          exact ⟨by rw [he.out]; rfl, rfl⟩
      · have hx0 : ¬ x < 0 := by omega
        have hx1 : ¬ 1099511627776 < x := by omega
        by_cases h4 : x < y
        · have he : Hid (wrg g K = 9) := Hid.mk (by
            have e : wrg g (k + 1) = 9 := by
              rw [wrg, if_neg (by have := HR.out; omega), HX.out.1, if_neg h1, if_pos ?_]
              cases k with
              | zero => have := HX.out.2; simp only [lastZ] at this; omega
              | succ k => have := HX.out.2; simp only [lastZ] at this; exact ⟨by omega, by simpa [this] using h4⟩
            rw [wrg_keeps g (k := k + 1) hkK (by omega), e])
          clear h1
          go_wp2
          go_ret2
          exact ⟨by rw [he.out]; rfl, rfl⟩
        · have he : Hid (wrg g (k + 1) = 0) := Hid.mk (by
            rw [wrg, if_neg (by have := HR.out; omega), HX.out.1, if_neg h1, if_neg ?_]
            cases k with
            | zero => omega
            | succ k => have := HX.out.2; simp only [lastZ] at this; simp [this]; omega)
          clear h1
          go_wp2
          exact ⟨⟨k + 1, by omega, by go_num, by rw [lastZ, HX.out.1], he⟩, by simp [intOf]; omega⟩
    · obtain rfl : k = K := by omega
      exact absurd HR.out HH.out.2

/-- The last of the first n numbers; 0: there is none. -/
def lst (f : Nat → Nat) : Nat → Nat
  | 0 => 0
  | k + 1 => f k
theorem lst_le {f : Nat → Nat} {n : Nat} (h : Climbs f n) : lst f n ≤ 1099511627776 := by
  cases n with
  | zero => simp [lst]
  | succ n => exact h.top n (Nat.lt_succ_self n)
/-- Their low width. -/
def wdt (f : Nat → Nat) (n : Nat) : Nat := lowN n (lst f n)
theorem wdt_le {f : Nat → Nat} {n : Nat} (h : Climbs f n) : wdt f n ≤ 40 := low_le _ _ (lst_le h)
theorem hN_bound {f : Nat → Nat} {n : Nat} (h : Climbs f n) : hN f (wdt f n) n ≤ 3 * n := by
  cases n with
  | zero => simp [hN]
  | succ n =>
    have h1 := low_half (n + 1) (f n) (by omega) (by have := h.top n (Nat.lt_succ_self n); omega)
    rw [hN, show wdt f (n + 1) = lowN (n + 1) (f n) from rfl]; unfold hp; omega

/-- The sequence of the first n numbers lies at block s, from block 'base' on. -/
structure SeqAt (w : World) (base s : Nat) (f : Nat → Nat) (n : Nat) : Prop where
  climbs : Climbs f n
  num : n ≤ 1000
  mem : ∃ p d, w.heap[s]? = some (.cells #[.pointer (some ⟨p, 0, none⟩), .pointer (some ⟨d, 0, none⟩)] 54 (0, 0)) ∧ PackAt w base p (packV (wdt f n) (fun i => f i % 2 ^ wdt f n) n) (wdt f n) n ∧ SDirAt w base d (hV f (wdt f n) n) (hN f (wdt f n) n)
theorem SeqAt.more {w w' : World} {base s : Nat} {f : Nat → Nat} {n : Nat} (h : SeqAt w base s f n) (k : More w w') : SeqAt w' base s f n := by
  obtain ⟨p, d, hs, hp, hd⟩ := h.mem
  exact ⟨h.climbs, h.num, p, d, by rw [k.block s (lt_of_block hs)]; exact hs, hp.more k, hd.more k⟩

set_option maxHeartbeats 800000 in
set_option maxRecDepth 1000000 in
theorem el_new (v : Value) (K : Nat) (f : Nat → Nat) (w : World) (h : ZRd w v K (fun j => (f j : Int))) (hC : Climbs f K) (hK : K ≤ 1000) :
    Calls Tryd.prog 13 #[v] w fun e w' => ∃ s, e = .returned (.tuple #[.pointer (some ⟨s, 0, none⟩), .int .i64 0]) ∧ SeqAt w' w.heap.size s f K ∧ More w w' := by
  obtain ⟨ao, cap, rfl⟩ := h.shape
  have hd := wdt_le hC
  have hb := hN_bound hC
  have hlow := fun w => el_low (K : Int) (lst f K : Nat) (by have := lst_le hC; omega) w
  rw [lowZ_nat, show lowN K (lst f K) = wdt f K from rfl] at hlow
  have hlp := fun w1 (hm : More w w1) => el_lowPart _ K (wdt f K) f w1 (h.more hm) hC.top (by omega) hK
  have hhp := fun w1 (hm : More w w1) => el_highPart _ K (wdt f K) f w1 (h.more hm) hC (by omega) hK (by omega)
  obtain ⟨D, hD⟩ : ∃ D, wdt f K = D := ⟨_, rfl⟩
  obtain ⟨U, hU⟩ : ∃ U, lst f K = U := ⟨_, rfl⟩
  rw [hD] at hlow hlp hhp
  rw [hU] at hlow
  have HH := Hid.mk (And.intro h (And.intro hC (And.intro hD hU)))
  clear h hC hD hU hb hd
  go_enter Tryd.func13, Tryd.ntmps13
  go_wp2
  go_loop [4, 10] (fun s i => ∃ k y : Nat, k ≤ K ∧ i = .int .i64 k ∧ s = .int .i64 y ∧ Hid (y = lst f k)) (fun _ i => K - (intOf i).toNat)
  case atStart => exact ⟨0, 0, Nat.zero_le _, rfl, rfl, Hid.mk rfl⟩
  case round =>
    obtain ⟨k, y, hk, rfl, rfl, HR⟩ := hrel
    by_cases hkK : k < K
    · obtain ⟨b, o, rfl, hc⟩ := HH.out.1.cell (w' := w) k hkK
      have hck := hc (Below.refl _ _)
      clear hc
      have htop := HH.out.2.1.top k hkK
      have hup : ¬ f k < y := by
        rw [HR.out]
        cases k with
        | zero => simp [lst]
        | succ k => have := HH.out.2.1.up k hkK; simp only [lst]; omega
      obtain ⟨x, hx⟩ : ∃ x, f k = x := ⟨_, rfl⟩
      rw [hx] at hck htop hup
      have HX := Hid.mk hx
      clear hx
      go_wp2
      exact ⟨⟨k + 1, x, by omega, by go_num, rfl, Hid.mk (by rw [lst, HX.out])⟩, by simp [intOf]; omega⟩
    · obtain rfl : k = K := by omega
      obtain rfl : y = U := by rw [HR.out, HH.out.2.2.2]
      clear hkK hk
      go_wp2_with (first
        | (go_at_call 20; refine (hlow _).mono ?_; rintro e w' ⟨rfl, hw⟩; subst w'; clear hlow)
        | (go_at_call 21; refine (hlp _ (Below.refl _ _)).mono ?_; rintro e w1 ⟨p, rfl, hp, hm⟩; have H1 := Hid.mk (And.intro hp hm); clear hp hm hlp)
        | (go_at_call 23; refine (hhp _ H1.out.2).mono ?_; rintro e w2 ⟨b, rfl, hr, hm⟩; have H2 := Hid.mk (And.intro hr hm); clear hr hm hhp)
        | (go_at_call 22; refine (sdir_new _ _ _ w2 (fun w' hm => RowOr.row (hm.row H2.out.1))).mono ?_; rintro e w3 ⟨d, rfl, hd, hm⟩; have H3 := Hid.mk (And.intro hd hm); clear hd hm))
      go_ret2
      have h13 := More.trans H2.out.2 H3.out.2
      have h03 := More.trans H1.out.2 h13
      refine ⟨_, rfl, ⟨HH.out.2.1, hK, p, d, heap_alloc_new _ _, ?_, ?_⟩, h03.alloc h03.size _⟩
      · rw [HH.out.2.2.1]; exact (H1.out.1.more h13).more (more_alloc _ _)
      · rw [HH.out.2.2.1]; exact (H3.out.1.lower (More.trans H1.out.2 H2.out.2).size).more (more_alloc _ _)

end Go.Proofs.YtgcaenpflndibaaDoor
