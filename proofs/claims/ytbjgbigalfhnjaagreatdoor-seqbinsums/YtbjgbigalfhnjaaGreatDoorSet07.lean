/-
  Packs in memory, and what packrow's functions do with them.
  Packs are made: New, Fit, Of.
  The first one that is not below a number: halving, of numbers that do not fall.
-/
import Derived.Test.YtbjgbigalfhnjaaGreatDoorSet06
import Derived.Deep.RegionWith
namespace Go.Proofs.YtbjgbigalfhnjaaGreatDoor
open Go.RowKit

/-- A pack of n numbers of d bits, the row V, lies at block p, from block 'base' on. -/
structure PackAt (w : World) (base p V d n : Nat) : Prop where
  lo : base ≤ p
  wid : d ≤ 64
  num : n ≤ 67108864
  mem : ∃ b, w.heap[p]? = some (.cells #[.pointer (some ⟨b, 0, none⟩), .int .i64 d, .int .i64 n] 107 (0, 0)) ∧ RowAt w base b V (d * n)

/-- A pack as it is read. -/
structure PackRd (w : World) (p V d n : Nat) : Prop where
  wid : d ≤ 64
  num : n ≤ 67108864
  c1 : w.cell? ⟨p, 1, none⟩ = some (.int .i64 d)
  c2 : w.cell? ⟨p, 2, none⟩ = some (.int .i64 n)
  row : ∃ b, w.cell? ⟨p, 0, none⟩ = some (.pointer (some ⟨b, 0, none⟩)) ∧ RowRd w b V (d * n)

theorem PackAt.rd {w : World} {base p V d n : Nat} (h : PackAt w base p V d n) : PackRd w p V d n := by
  obtain ⟨b, hp, hr⟩ := h.mem
  refine ⟨h.wid, h.num, ?_, ?_, b, ?_, hr.rd⟩ <;> simp [World.cell?, hp]
theorem PackRd.drewN {w : World} {p V d n : Nat} (h : PackRd w p V d n) (m : Nat) : PackRd (w.drewN m) p V d n := by
  obtain ⟨b, h0, hr⟩ := h.row
  exact ⟨h.wid, h.num, h.c1, h.c2, b, h0, hr.drewN m⟩
theorem PackAt.more {w w' : World} {base p V d n : Nat} (h : PackAt w base p V d n) (k : More w w') : PackAt w' base p V d n := by
  obtain ⟨b, hp, hr⟩ := h.mem
  exact ⟨h.lo, h.wid, h.num, b, by rw [k.block p (lt_of_block hp)]; exact hp, More.row hr k⟩
theorem PackAt.fit {w : World} {base p V d n : Nat} (h : PackAt w base p V d n) : V < 2 ^ (d * n) := by
  obtain ⟨b, hp, hr⟩ := h.mem
  exact hr.fit

theorem may_be (d : Int) (w : World) : Calls Tryz.prog 91 #[.int .i64 d] w fun e w' => e = .returned (.bool (decide (0 ≤ d ∧ d ≤ 64))) ∧ w' = w := by
  by_cases h0 : 0 ≤ d
  · by_cases h1 : d ≤ 64
    · rw [show decide (0 ≤ d ∧ d ≤ 64) = true by simp [h0, h1]]
      go_enter Tryz.func91, Tryz.ntmps91
      go_wp2
      go_ret
      exact ⟨rfl, rfl⟩
    · rw [show decide (0 ≤ d ∧ d ≤ 64) = false by simp [h1]]
      go_enter Tryz.func91, Tryz.ntmps91
      go_wp2
      go_ret
      exact ⟨rfl, rfl⟩
  · rw [show decide (0 ≤ d ∧ d ≤ 64) = false by simp [h0]]
    go_enter Tryz.func91, Tryz.ntmps91
    go_wp2
    go_ret
    exact ⟨rfl, rfl⟩

theorem pack_len (p V d n : Nat) (w : World) (h : PackRd w p V d n) : Calls Tryz.prog 46 #[.pointer (some ⟨p, 0, none⟩)] w fun e w' => e = .returned (.int .i64 n) ∧ w' = w := by
  have h2 := h.c2
  clear h
  go_enter Tryz.func46, Tryz.ntmps46
  go_wp2
  go_ret
  exact ⟨rfl, rfl⟩
theorem pnone_len (w : World) : Calls Tryz.prog 46 #[.pointer none] w fun e w' => e = .returned (.int .i64 0) ∧ w' = w := by
  go_enter Tryz.func46, Tryz.ntmps46
  go_wp2
  go_ret
  exact ⟨rfl, rfl⟩
theorem pack_width (p V d n : Nat) (w : World) (h : PackRd w p V d n) : Calls Tryz.prog 45 #[.pointer (some ⟨p, 0, none⟩)] w fun e w' => e = .returned (.int .i64 d) ∧ w' = w := by
  have h2 := h.c1
  clear h
  go_enter Tryz.func45, Tryz.ntmps45
  go_wp2
  go_ret
  exact ⟨rfl, rfl⟩
theorem none_width (w : World) : Calls Tryz.prog 45 #[.pointer none] w fun e w' => e = .returned (.int .i64 0) ∧ w' = w := by
  go_enter Tryz.func45, Tryz.ntmps45
  go_wp2
  go_ret
  exact ⟨rfl, rfl⟩
theorem none_words (w : World) : Calls Tryz.prog 48 #[.pointer none] w fun e w' => e = .returned (.slice none 0 0) ∧ w' = w := by
  go_enter Tryz.func48, Tryz.ntmps48
  go_wp2
  go_ret
  exact ⟨rfl, rfl⟩

theorem pack_words (base p V d n : Nat) (w : World) (h : PackAt w base p V d n) : Calls Tryz.prog 48 #[.pointer (some ⟨p, 0, none⟩)] w fun e w' => ∃ v', e = .returned v' ∧ w'.ownsRow w.heap.size 68 1 v' (nw (d * n)) (u64s (wd V) (nw (d * n))) ∧ More w w' := by
  obtain ⟨b, hp, hr⟩ := h.mem
  have h0 : w.cell? ⟨p, 0, none⟩ = some (.pointer (some ⟨b, 0, none⟩)) := by simp [World.cell?, hp]
  have hw := row_words base b V (d * n) w hr
  clear h hp hr
  go_enter Tryz.func48, Tryz.ntmps48
  go_wp2_with (go_at_call 73; refine hw.mono ?_; rintro e w1 ⟨v', rfl, hown, hk⟩; have H1 := Hid.mk (And.intro hown hk.below); clear hown hk; obtain ⟨ao', cap', rfl⟩ := shape_of H1.out.1)
  go_ret
  exact ⟨_, rfl, H1.out.1, H1.out.2⟩

theorem none_at (i : Int) (w : World) : Calls Tryz.prog 85 #[.pointer none, .int .i64 i] w fun e w' => e = .returned (.int .u64 0) ∧ w' = w := by
  rcases (show i < 0 ∨ (¬ i < 0 ∧ 0 ≤ i) by omega) with h | ⟨h, h2⟩
  all_goals
    go_enter Tryz.func85, Tryz.ntmps85
    go_wp2_with (go_at_call 46; refine (pnone_len _).mono ?_; rintro e w' ⟨rfl, rfl⟩)
    go_ret
    exact ⟨rfl, rfl⟩

theorem pack_at (p V d n : Nat) (i : Int) (w : World) (h : PackRd w p V d n) : Calls Tryz.prog 85 #[.pointer (some ⟨p, 0, none⟩), .int .i64 i] w fun e w' => e = .returned (.int .u64 (atV V d n i : Nat)) ∧ ∃ k, w' = w.drewN k := by
  have hl := fun w (h : PackRd w p V d n) => pack_len p V d n w h
  by_cases h0 : i < 0
  · rw [atV_out V d n i (by omega)]
    clear h
    go_enter Tryz.func85, Tryz.ntmps85
    go_wp2
    go_ret
    exact ⟨rfl, 0, rfl⟩
  obtain ⟨i, rfl⟩ := Int.eq_ofNat_of_zero_le (show 0 ≤ i by omega)
  have hll := hl w h
  clear hl
  by_cases h1 : i < n
  · obtain ⟨b, c0, hr⟩ := h.row
    have c1 := h.c1
    have hn := h.num
    have hd := h.wid
    obtain ⟨M, hM⟩ : ∃ M, d * i = M := ⟨_, rfl⟩
    have hMb : M ≤ 4294967296 := by rw [← hM]; exact Nat.le_trans (Nat.mul_le_mul hd (show i ≤ 67108864 by omega)) (by decide)
    have hMi : (i : Int) * (d : Int) = (M : Int) := by rw [← hM, Int.natCast_mul, Int.mul_comm]
    have hMw : IntKind.i64.wrap (M : Int) = (M : Int) := by rw [IntKind.wrap_i64]; omega
    have hat : atV V d n i = cutV V (M : Int) (min 64 (d : Int).toNat) := by
      unfold atV cutV
      rw [if_pos ⟨by omega, by omega⟩, if_neg (by omega), Int.toNat_natCast, Int.toNat_natCast, Int.toNat_natCast, hM, Nat.min_eq_right hd]
    rw [hat]
    have hc := fun (m : Nat) => row_cut b V (d * n) (M : Int) (d : Int) (w.drewN m) (hr.drewN m) (by omega) (by omega)
    generalize cutV V (M : Int) (min 64 (d : Int).toNat) = X at hc ⊢
    clear h hr hM hat h0
    go_enter Tryz.func85, Tryz.ntmps85
    go_wp2_with (go_at_call 46; refine hll.mono ?_; rintro e w' ⟨rfl, hw⟩; subst hw)
    go_quiet ((go_at_call 42; exact Calls.quiet_of (hc _)))
    go_wp2
    go_ret
    exact ⟨rfl, _, rfl⟩
  · rw [atV_out V d n i (by omega)]
    clear h h0
    go_enter Tryz.func85, Tryz.ntmps85
    go_wp2_with (go_at_call 46; refine hll.mono ?_; rintro e w' ⟨rfl, hw⟩; subst hw)
    go_ret
    exact ⟨rfl, 0, rfl⟩

end Go.Proofs.YtbjgbigalfhnjaaGreatDoor

namespace Go.Proofs.YtbjgbigalfhnjaaGreatDoor
open Go.RowKit

theorem Rd.cellP {w w' : World} {ao : Option Addr} {K cap : Nat} {f : Nat → Nat} (h : Rd w (.slice ao K cap) K f) (k : Nat) (hk : k < K) : ∃ g o, ao = some ⟨g, o, none⟩ ∧ (More w w' → w'.cell? ⟨g, o + k, none⟩ = some (.int .u64 (f k : Nat))) := by
  rcases h with ⟨rfl, _⟩ | ⟨g, o, cap', h, hg, hc⟩
  · omega
  · simp at h
    exact ⟨g, o, h.1, fun m => (m.cell (p := ⟨g, o + k, none⟩) hg).trans (hc k hk)⟩

theorem addErr_le (x d : Nat) (hd : d ≤ 64) (h : Lib.bitLen x ≤ d) : addErr x d = 0 := by
  unfold addErr
  rw [if_neg (by omega), if_neg (by simp; omega)]
theorem addErr_gt (x d : Nat) (hd : d ≤ 64) (h : ¬ Lib.bitLen x ≤ d) : addErr x d = 8 := by
  unfold addErr
  rw [if_neg (by omega), if_pos (by simp; omega)]

theorem new_bad (v : Value) (d : Int) (w : World) (hd : ¬ (0 ≤ d ∧ d ≤ 64)) :
    Calls Tryz.prog 77 #[.int .i64 d, v] w fun e w' => e = .returned (.tuple #[.pointer none, .int .i64 1]) ∧ w' = w := by
  have hm := fun w => may_be d w
  rw [show decide (0 ≤ d ∧ d ≤ 64) = false by simpa using hd] at hm
  clear hd
  go_enter Tryz.func77, Tryz.ntmps77
  go_wp2_with (go_at_call 91; refine (hm _).mono ?_; rintro e w' ⟨rfl, hw⟩; subst hw)
  go_ret2
  exact ⟨rfl, rfl⟩

set_option maxHeartbeats 800000 in
set_option maxRecDepth 1000000 in
theorem pack_new (v : Value) (K d : Nat) (f : Nat → Nat) (w : World) (h : Rd w v K f) (hf : ∀ j, j < K → f j < 18446744073709551616) (hd : d ≤ 64) (hK : K ≤ 1000000) :
    Calls Tryz.prog 77 #[.int .i64 d, v] w fun e w' => ((wid f K ≤ d ∧ ∃ p, e = .returned (.tuple #[.pointer (some ⟨p, 0, none⟩), .int .i64 0]) ∧ PackAt w' w.heap.size p (packV d f K) d K) ∨ (¬ wid f K ≤ d ∧ e = .returned (.tuple #[.pointer none, .int .i64 8]))) ∧ More w w' := by
  obtain ⟨ao, cap, rfl⟩ := h.shape
  have hm := fun w => may_be d w
  rw [show decide (0 ≤ (d : Int) ∧ (d : Int) ≤ 64) = true by simp; omega] at hm
  have hrow0 : RowAt (w.alloc (.cells #[.slice none 0 0, .int .i64 0] 102)) w.heap.size w.heap.size 0 0 :=
    ⟨Nat.le_refl _, by decide, by decide, _, heap_alloc_new _ _, World.ownsRow_nil _ _ _ _⟩
  have HR0 : Hid _ := And.intro hrow0 ((Below.refl w.heap.size w).alloc (Nat.le_refl _) (.cells #[.slice none 0 0, .int .i64 0] 102))
  have HH : Hid _ := And.intro h (And.intro hf hd)
  clear hrow0 h hf hd
  go_enter Tryz.func77, Tryz.ntmps77
  go_wp2_with (first
    | (go_at_call 91; refine (hm _).mono ?_; rintro e w' ⟨rfl, hw⟩; subst w')
    | (go_at_call 49; refine (new_row _).mono ?_; rintro e w' ⟨rfl, hw⟩; subst w'))
  go_loopw [16] (fun i wr => ∃ k : Nat, k ≤ K ∧ i = .int .i64 k ∧ Hid (RowAt wr w.heap.size w.heap.size (packV d f k) (d * k) ∧ wid f k ≤ d ∧ Below w.heap.size w wr)) (fun i _ => K - (intOf i).toNat)
  case atStart => exact ⟨0, Nat.zero_le _, rfl, Hid.mk ⟨HR0.out.1, Nat.zero_le _, HR0.out.2⟩⟩
  case round =>
    obtain ⟨k, hk, rfl, hown⟩ := hrel
    by_cases hkK : k < K
    · obtain ⟨g, o, rfl, hc⟩ := HH.out.1.cellP (w' := wr) k hkK
      have hck := hc hown.out.2.2
      clear hc
      have hx := HH.out.2.1 k hkK
      have hnl : d * k + 64 ≤ 1099511627776 := by
        have := Nat.mul_le_mul HH.out.2.2 (show k ≤ 1000000 by omega)
        omega
      have hadd := row_add w.heap.size w.heap.size (packV d f k) (d * k) (f k) d wr hown.out.1 hown.out.2.2.size hx hnl
      by_cases hb : Lib.bitLen (f k) ≤ d
      · have e0 := addErr_le (f k) d HH.out.2.2 hb
        rw [addV, addN, if_pos e0, if_pos e0, e0, Int.toNat_natCast] at hadd
        have HB : Hid _ := hb
        clear hx hb e0 hnl
        go_wp2_with (go_at_call 75; refine hadd.mono ?_; rintro e w1 ⟨rfl, hrow, hkeep⟩; have H1 := Hid.mk (And.intro hrow (hown.out.2.2.trans hkeep.below)); clear hrow hkeep)
        refine ⟨⟨k + 1, by omega, by go_num, Hid.mk ⟨H1.out.1, ?_, H1.out.2⟩⟩, by simp [intOf]; omega⟩
        rw [wid]; exact Nat.max_le.2 ⟨hown.out.2.1, HB.out⟩
      · have e0 := addErr_gt (f k) d HH.out.2.2 hb
        rw [e0] at hadd
        have HB : Hid _ := hb
        clear hx hb e0 hnl
        go_wp2_with (go_at_call 75; refine hadd.mono ?_; rintro e w1 ⟨rfl, _, hkeep⟩; have H1 := Hid.mk (hown.out.2.2.trans hkeep.below); clear hkeep)
        go_ret2
        exact ⟨.inr ⟨fun hh => HB.out ((wid_le f K d).1 hh k hkK), rfl⟩, H1.out⟩
    · obtain rfl : k = K := by omega
      clear hkK hk
      go_wp2
      go_ret2
      refine ⟨.inl ⟨hown.out.2.1, _, rfl, ⟨?_, HH.out.2.2, by omega, _, heap_alloc_new _ _, ?_⟩⟩, ?_⟩
      · exact hown.out.2.2.size
      · exact More.row hown.out.1 ((Below.refl wr.heap.size wr).alloc (Nat.le_refl _) _)
      · exact hown.out.2.2.alloc hown.out.2.2.size _

end Go.Proofs.YtbjgbigalfhnjaaGreatDoor

namespace Go.Proofs.YtbjgbigalfhnjaaGreatDoor
open Go.RowKit

/-- r is the first place from lo to ahead of hi, below K, whose number is not below v; -1: there is none. -/
def IsFind (f : Nat → Nat) (K : Nat) (lo hi : Int) (v : Nat) (r : Int) : Prop :=
  (r = -1 ∧ ∀ i : Nat, i < K → lo ≤ i → i < hi → f i < v) ∨ ∃ i : Nat, r = i ∧ i < K ∧ lo ≤ i ∧ i < hi ∧ v ≤ f i ∧ ∀ j : Nat, j < i → lo ≤ j → f j < v

theorem IsFind.unique {f : Nat → Nat} {K : Nat} {lo hi : Int} {v : Nat} {r s : Int} (h : IsFind f K lo hi v r) (k : IsFind f K lo hi v s) : r = s := by
  rcases h with ⟨rfl, h⟩ | ⟨i, rfl, h1, h2, h3, h4, h5⟩ <;> rcases k with ⟨rfl, k⟩ | ⟨j, rfl, k1, k2, k3, k4, k5⟩
  · rfl
  · have := h j k1 k2 k3; omega
  · have := k i h1 h2 h3; omega
  · rcases (show i < j ∨ i = j ∨ j < i by omega) with x | x | x
    · have := k5 i x h2; omega
    · omega
    · have := h5 j x k2; omega

/-- No number of the places from lo to ahead of hi falls. -/
def Rising (f : Nat → Nat) (K : Nat) (lo hi : Int) : Prop := ∀ i : Nat, 1 ≤ i → i < K → lo < i → i < hi → f (i - 1) ≤ f i

theorem Rising.mono {f : Nat → Nat} {K : Nat} {lo hi : Int} (h : Rising f K lo hi) (a b : Nat) (ha : lo ≤ a) (hab : a ≤ b) (hb : b < hi) (hK : b < K) : f a ≤ f b := by
  induction b with
  | zero => obtain rfl : a = 0 := by omega
            exact Nat.le_refl _
  | succ b ih =>
    by_cases e : a = b + 1
    · subst e; exact Nat.le_refl _
    · exact Nat.le_trans (ih (by omega) (by omega) (by omega)) (by have := h (b + 1) (by omega) hK (by omega) (by omega); simpa using this)

end Go.Proofs.YtbjgbigalfhnjaaGreatDoor
