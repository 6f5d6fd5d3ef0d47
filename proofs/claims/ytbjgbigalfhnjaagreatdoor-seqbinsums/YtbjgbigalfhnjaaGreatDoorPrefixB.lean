/-
  prefix: New, and what lies in memory of a sequence; Len, Total, Sum, At, Where, Size; of nil too.
-/
import Derived.Test.YtbjgbigalfhnjaaGreatDoorSet15
import Derived.Test.YtbjgbigalfhnjaaGreatDoorSet16
namespace Go.Proofs.YtbjgbigalfhnjaaGreatDoor
open Go.RowKit

theorem SeqAt.lower {w : World} {base base' s : Nat} {f : Nat → Nat} {n : Nat} (h : SeqAt w base s f n) (hb : base' ≤ base) : SeqAt w base' s f n := by
  obtain ⟨p, d, hs, hp, hd⟩ := h.mem
  exact ⟨h.climbs, h.num, p, d, hs, hp.lower hb, hd.lower hb⟩

/-- The sequence of the first n numbers lies at block q, from block 'base' on. -/
structure PxAt (w : World) (base q : Nat) (f : Nat → Nat) (n : Nat) : Prop where
  top : sm f n ≤ 1099511627776
  num : n ≤ 3900
  mem : ∃ s, w.heap[q]? = some (.cells #[.pointer (some ⟨s, 0, none⟩)] 59 (0, 0)) ∧ SeqAt w base s (sm f) (n + 1)
theorem PxAt.more {w w' : World} {base q : Nat} {f : Nat → Nat} {n : Nat} (h : PxAt w base q f n) (k : More w w') : PxAt w' base q f n := by
  obtain ⟨s, hq, hs⟩ := h.mem
  exact ⟨h.top, h.num, s, by rw [k.block q (lt_of_block hq)]; exact hq, hs.more k⟩
theorem PxAt.rd {w : World} {base q : Nat} {f : Nat → Nat} {n : Nat} (h : PxAt w base q f n) : ∃ s, w.cell? ⟨q, 0, none⟩ = some (.pointer (some ⟨s, 0, none⟩)) ∧ SeqAt w base s (sm f) (n + 1) := by
  obtain ⟨s, hq, hs⟩ := h.mem
  exact ⟨s, by simp [World.cell?, hq], hs⟩

theorem px_new_bad (v : Value) (K : Nat) (g : Nat → Int) (w : World) (h : ZRd w v K g) (hK : K ≤ 3900) (hb : ¬ Fits g K) :
    Calls Tryz.prog 6 #[v] w fun e w' => e = .returned (.tuple #[.pointer none, .int .i64 8]) ∧ More w w' := by
  have hs := px_sums v K g w h hK
  obtain ⟨ao, cap, rfl⟩ := h.shape
  clear h
  go_enter Tryz.func6, Tryz.ntmps6
  go_wp2_with (go_at_call 25; refine hs.mono ?_; rintro e w1 ⟨⟨hf, _⟩ | ⟨_, rfl⟩, hm⟩; exact absurd hf hb; have H1 := Hid.mk hm; clear hm hs)
  go_ret2
  exact ⟨rfl, H1.out⟩

set_option maxHeartbeats 800000 in
theorem px_new (v : Value) (K : Nat) (f : Nat → Nat) (w : World) (h : ZRd w v K (fun j => (f j : Int))) (hK : K ≤ 3900) (hf : sm f K ≤ 1099511627776) :
    Calls Tryz.prog 6 #[v] w fun e w' => ∃ q, e = .returned (.tuple #[.pointer (some ⟨q, 0, none⟩), .int .i64 0]) ∧ PxAt w' w.heap.size q f K ∧ More w w' := by
  have ef : (fun j => ((f j : Nat) : Int).toNat) = f := by funext j; simp
  have hs : Calls Tryz.prog 25 #[v, .int .i64 1099511627776] w fun e w' => (∃ ao cap, e = .returned (.tuple #[.slice ao (K + 1) cap, .bool true]) ∧ ZRd w' (.slice ao (K + 1) cap) (K + 1) (fun j => (sm f j : Int))) ∧ More w w' := (px_sums v K _ w h hK).mono fun e w' ⟨hs, hm⟩ => by
    rcases hs with ⟨_, ao, cap, he, ho⟩ | ⟨hn, _⟩
    · rw [ef] at ho; exact ⟨⟨ao, cap, he, zrd_own ho⟩, hm⟩
    · exact absurd ⟨fun j _ => Int.natCast_nonneg (f j), by rw [ef]; exact hf⟩ hn
  have hnew : ∀ w1 ao cap, ZRd w1 (.slice ao (K + 1) cap) (K + 1) (fun j => (sm f j : Int)) → _ := fun w1 ao cap hz => el_new _ (K + 1) (sm f) w1 hz (sm_climbs hf) (by omega)
  obtain ⟨ao, cap, rfl⟩ := h.shape
  have HH := Hid.mk hf
  clear h hf
  go_enter Tryz.func6, Tryz.ntmps6
  go_wp2_with (first
    | (go_at_call 25; refine hs.mono ?_; rintro e w1 ⟨⟨ao1, cap1, rfl, hz⟩, hm⟩; have H1 := Hid.mk (And.intro hz hm); clear hm hz hs)
    | (go_at_call 20; refine (hnew w1 _ _ H1.out.1).mono ?_; rintro e w2 ⟨s, rfl, hq, hm⟩; have H2 := Hid.mk (And.intro hq (More.trans H1.out.2 hm)); clear hq hm hnew))
  go_ret2
  refine ⟨_, rfl, ⟨HH.out, hK, s, heap_alloc_new _ _, (H2.out.1.lower H1.out.2.size).more (more_alloc _ _)⟩, H2.out.2.alloc H2.out.2.size _⟩

theorem px_len (base q : Nat) (f : Nat → Nat) (n : Nat) (w : World) (h : PxAt w base q f n) :
    Calls Tryz.prog 12 #[.pointer (some ⟨q, 0, none⟩)] w fun e w' => e = .returned (.int .i64 n) ∧ w' = w := by
  obtain ⟨s, c0, hs⟩ := h.rd
  have hl := el_len base s _ (n + 1) w hs
  have hn := h.num
  clear h hs
  go_enter Tryz.func12, Tryz.ntmps12
  go_wp2_with (go_at_call 22; refine hl.mono ?_; rintro e w' ⟨rfl, hw⟩; subst w')
  go_ret
  exact ⟨by simp, rfl⟩
theorem pxn_len (w : World) : Calls Tryz.prog 12 #[.pointer none] w fun e w' => e = .returned (.int .i64 0) ∧ w' = w := by
  go_enter Tryz.func12, Tryz.ntmps12
  go_wp2
  go_ret
  exact ⟨rfl, rfl⟩

theorem px_total (base q : Nat) (f : Nat → Nat) (n : Nat) (w : World) (h : PxAt w base q f n) :
    Calls Tryz.prog 13 #[.pointer (some ⟨q, 0, none⟩)] w fun e w' => e = .returned (.int .i64 (sm f n : Nat)) ∧ More w w' := by
  obtain ⟨s, c0, hs⟩ := h.rd
  have hl := el_last base s _ (n + 1) w hs
  rw [last_sum] at hl
  generalize sm f n = T at *
  clear h hs
  go_enter Tryz.func13, Tryz.ntmps13
  go_wp2_with (go_at_call 24; refine hl.mono ?_; rintro e w1 ⟨rfl, hm⟩; have H1 := Hid.mk hm; clear hm hl)
  go_ret
  exact ⟨rfl, H1.out⟩
theorem pxn_total (w : World) : Calls Tryz.prog 13 #[.pointer none] w fun e w' => e = .returned (.int .i64 0) ∧ w' = w := by
  go_enter Tryz.func13, Tryz.ntmps13
  go_wp2
  go_ret
  exact ⟨rfl, rfl⟩

set_option maxHeartbeats 800000 in
set_option maxRecDepth 1000000 in
theorem px_sum (base q : Nat) (f : Nat → Nat) (n : Nat) (lo hi : Int) (w : World) (h : PxAt w base q f n) :
    Calls Tryz.prog 32 #[.pointer (some ⟨q, 0, none⟩), .int .i64 lo, .int .i64 hi] w fun e w' => e = .returned (.int .i64 (sumZ f n lo hi)) ∧ More w w' := by
  have hl := px_len base q f n w h
  have htop := h.top
  unfold sumZ
  obtain ⟨A, hA⟩ : ∃ A, max lo (0 : Int) = A := ⟨_, rfl⟩
  obtain ⟨B, hB⟩ : ∃ B, min hi (n : Int) = B := ⟨_, rfl⟩
  rw [hA, hB]
  by_cases hle : B ≤ A
  · rw [if_pos hle]
    clear h htop
    go_enter Tryz.func32, Tryz.ntmps32
    go_wp2_with (go_at_call 12; refine hl.mono ?_; rintro e w' ⟨rfl, hw⟩; subst w'; clear hl)
    go_ret
    exact ⟨rfl, Below.refl _ _⟩
  · rw [if_neg hle]
    obtain ⟨a, rfl⟩ := Int.eq_ofNat_of_zero_le (show 0 ≤ A by omega)
    obtain ⟨b, rfl⟩ := Int.eq_ofNat_of_zero_le (show 0 ≤ B by omega)
    obtain ⟨s, c0, hs⟩ := h.rd
    have hq := World.block_lt_of_cell? w _ c0
    have l0 : ∀ u : Lat w, u.val.cell? ⟨q, 0, none⟩ = some (.pointer (some ⟨s, 0, none⟩)) := fun u => (u.more.cell (p := ⟨q, 0, none⟩) hq).trans c0
    have ka : ∀ u : Lat w, Calls Tryz.prog 23 #[.pointer (some ⟨s, 0, none⟩), .int .i64 a] u.val fun e w' => e = .returned (.int .i64 (sm f a : Nat)) ∧ ∃ u' : Lat w, w' = u'.val := fun u => by
      have := el_at base s (sm f) (n + 1) a u.val (hs.more u.more)
      rw [atZ_in (sm f) (n + 1) a (by omega)] at this
      exact this.mono fun e w' ⟨he, hm⟩ => ⟨he, u.grown hm⟩
    have kb : ∀ u : Lat w, Calls Tryz.prog 23 #[.pointer (some ⟨s, 0, none⟩), .int .i64 b] u.val fun e w' => e = .returned (.int .i64 (sm f b : Nat)) ∧ ∃ u' : Lat w, w' = u'.val := fun u => by
      have := el_at base s (sm f) (n + 1) b u.val (hs.more u.more)
      rw [atZ_in (sm f) (n + 1) b (by omega)] at this
      exact this.mono fun e w' ⟨he, hm⟩ => ⟨he, u.grown hm⟩
    have hab := sm_mono f (show a ≤ b by omega)
    have hbn := sm_mono f (show b ≤ n by omega)
    simp only [Int.toNat_natCast]
    generalize sm f a = X at *
    generalize sm f b = Y at *
    have hwZ : IntKind.i64.wrap ((Y : Int) - (X : Int)) = (Y : Int) - (X : Int) := by rw [IntKind.wrap_i64]; omega
    have hne : Nonempty (Lat w) := Lat.any w
    clear h htop hs c0 hq
    go_enter Tryz.func32, Tryz.ntmps32
    go_wp2_with (go_at_call 12; refine hl.mono ?_; rintro e w' ⟨rfl, hw⟩; subst w'; clear hl)
    refine wp_region_lat (by kernel_rfl) (by kernel_rfl) ?_
    repeat (quiet_step (first
      | (go_at_call_of 23 (Value.int IntKind.i64 a); exact ka _)
      | (go_at_call_of 23 (Value.int IntKind.i64 b); exact kb _)))
    refine wpQuiet_nil ?_
    rintro _ ⟨u, rfl⟩
    go_wp2
    go_ret
    exact ⟨rfl, u.more⟩
theorem pxn_sum (lo hi : Int) (w : World) : Calls Tryz.prog 32 #[.pointer none, .int .i64 lo, .int .i64 hi] w fun e w' => e = .returned (.int .i64 0) ∧ w' = w := by
  have hno : min hi (0 : Int) ≤ max lo (0 : Int) := by omega
  obtain ⟨A, hA⟩ : ∃ A, max lo (0 : Int) = A := ⟨_, rfl⟩
  obtain ⟨B, hB⟩ : ∃ B, min hi (0 : Int) = B := ⟨_, rfl⟩
  rw [hA, hB] at hno
  go_enter Tryz.func32, Tryz.ntmps32
  go_wp2_with (go_at_call 12; refine (pxn_len _).mono ?_; rintro e w' ⟨rfl, hw⟩; subst w')
  go_ret
  exact ⟨rfl, rfl⟩

theorem px_at (base q : Nat) (f : Nat → Nat) (n : Nat) (i : Int) (w : World) (h : PxAt w base q f n) :
    Calls Tryz.prog 14 #[.pointer (some ⟨q, 0, none⟩), .int .i64 i] w fun e w' => e = .returned (.int .i64 (atZ f n i)) ∧ More w w' := by
  have hl := px_len base q f n w h
  by_cases h0 : i < 0
  · rw [atZ_out f n i (by omega)]
    clear h hl
    go_enter Tryz.func14, Tryz.ntmps14
    go_wp2
    go_ret
    exact ⟨rfl, Below.refl _ _⟩
  obtain ⟨i, rfl⟩ := Int.eq_ofNat_of_zero_le (show 0 ≤ i by omega)
  by_cases h1 : i < n
  · rw [atZ_in f n i h1]
    have hs := px_sum base q f n i ((i : Int) + 1) w h
    rw [sum_one f n i h1] at hs
    have hn := h.num
    generalize f i = X at *
    clear h h0
    go_enter Tryz.func14, Tryz.ntmps14
    go_wp2_with (first
      | (go_at_call 12; refine hl.mono ?_; rintro e w' ⟨rfl, hw⟩; subst w'; clear hl)
      | (go_at_call 32; refine hs.mono ?_; rintro e w1 ⟨rfl, hm⟩; have H1 := Hid.mk hm; clear hm hs))
    go_ret
    exact ⟨rfl, H1.out⟩
  · rw [atZ_out f n i (by omega)]
    clear h h0
    go_enter Tryz.func14, Tryz.ntmps14
    go_wp2_with (go_at_call 12; refine hl.mono ?_; rintro e w' ⟨rfl, hw⟩; subst w')
    go_ret
    exact ⟨rfl, Below.refl _ _⟩
theorem pxn_at (i : Int) (w : World) : Calls Tryz.prog 14 #[.pointer none, .int .i64 i] w fun e w' => e = .returned (.int .i64 (-1)) ∧ w' = w := by
  rcases (show i < 0 ∨ (¬ i < 0 ∧ 0 ≤ i) by omega) with h | ⟨h, h2⟩
  all_goals
    go_enter Tryz.func14, Tryz.ntmps14
    go_wp2_with (go_at_call 12; refine (pxn_len _).mono ?_; rintro e w' ⟨rfl, hw⟩; subst w')
    go_ret
    exact ⟨rfl, rfl⟩

end Go.Proofs.YtbjgbigalfhnjaaGreatDoor
