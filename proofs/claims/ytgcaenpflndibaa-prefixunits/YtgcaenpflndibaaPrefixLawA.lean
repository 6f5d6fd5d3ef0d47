/-
  PrefixMakes and PrefixSums walked.
-/
import Derived.Test.YtgcaenpflndibaaPrefixRef
namespace Go.Proofs.Ytgcaenpflndibaa
open Go.RowKit

theorem fits_tell {w : World} {v : Value} {K : Nat} {g : Nat → Int} (h : ZRd w v K g) (h0 : Fits g K) : ZRd w v K (fun j => (((g j).toNat : Nat) : Int)) := h.congr fun j hj => by have := h0.1 j hj; omega

/-- The document's sums of numbers that may be. -/
theorem refx_good (v : Value) (K : Nat) (f : Nat → Nat) (w : World) (h : ZRd w v K (fun j => (f j : Int))) (hK : K ≤ 900) (hf : sm f K ≤ 1099511627776) :
    Calls Try.prog 8 #[v] w fun e w' => ∃ ao cap, e = .returned (.tuple #[.slice ao (K + 1) cap, .bool true]) ∧ ZRd w' (.slice ao (K + 1) cap) (K + 1) (fun j => (sm f j : Int)) ∧ More w w' := by
  have ef : (fun j => ((f j : Nat) : Int).toNat) = f := by funext j; simp
  refine (refx_sums v K _ w h hK).mono fun e w' ⟨hs, hm⟩ => ?_
  rcases hs with ⟨_, ao, cap, he, ho⟩ | ⟨hn, _⟩
  · rw [ef] at ho; exact ⟨ao, cap, he, zrd_own ho, hm⟩
  · exact absurd ⟨fun j _ => Int.natCast_nonneg (f j), by rw [ef]; exact hf⟩ hn
theorem refx_bad (v : Value) (K : Nat) (g : Nat → Int) (w : World) (h : ZRd w v K g) (hK : K ≤ 900) (hb : ¬ Fits g K) :
    Calls Try.prog 8 #[v] w fun e w' => e = .returned (.tuple #[.slice none 0 0, .bool false]) ∧ More w w' := by
  refine (refx_sums v K _ w h hK).mono fun e w' ⟨hs, hm⟩ => ?_
  rcases hs with ⟨hf, _⟩ | ⟨_, he⟩
  · exact absurd hf hb
  · exact ⟨he, hm⟩

theorem makes_big (v : Value) (K : Nat) (g : Nat → Int) (i : Int) (w : World) (h : ZRd w v K g) (hK : K ≤ 9223372036854775807) (hb : 80 < K) :
    Calls Try.prog 3 #[v, .int .i64 i] w fun e w' => e = .returned (.bool true) ∧ Below w.heap.size w w' := by
  obtain ⟨ao, cap, rfl⟩ := h.shape
  clear h
  go_enter Try.func3, Try.ntmps3
  go_wp2_with (go_at_call 6; refine (px_live _).mono ?_; rintro e w1 ⟨rfl, hm⟩; have H1 := Hid.mk hm; clear hm)
  go_ret
  exact ⟨rfl, H1.out⟩

set_option maxHeartbeats 800000 in
set_option maxRecDepth 1000000 in
theorem makes_bad (v : Value) (K : Nat) (g : Nat → Int) (i : Int) (w : World) (h : ZRd w v K g) (hb : K ≤ 80) (h0 : ¬ Fits g K) :
    Calls Try.prog 3 #[v, .int .i64 i] w fun e w' => e = .returned (.bool true) ∧ Below w.heap.size w w' := by
  have hw := fun w1 (hm : More w w1) => refx_bad v K g w1 (h.more hm) (by omega) h0
  have hn := px_new_bad v K g w h (by omega) h0
  obtain ⟨ao, cap, rfl⟩ := h.shape
  clear h h0
  go_enter Try.func3, Try.ntmps3
  go_wp2_with (first
    | (go_at_call 7; refine hn.mono ?_; rintro e w1 ⟨rfl, hm⟩; have H1 := Hid.mk hm; clear hm hn)
    | (go_at_call 8; refine (hw _ H1.out).mono ?_; rintro e w2 ⟨rfl, hm⟩; have H2 := Hid.mk (More.trans H1.out hm); clear hm hw)
    | (go_at_call 9; refine (pxn_len _).mono ?_; rintro e w' ⟨rfl, hw'⟩; subst w')
    | (go_at_call 10; refine (pxn_at _ _).mono ?_; rintro e w' ⟨rfl, hw'⟩; subst w')
    | (go_at_call 11; refine (pxn_total _).mono ?_; rintro e w' ⟨rfl, hw'⟩; subst w')
    | (go_at_call 12; refine (pxn_size _).mono ?_; rintro e w' ⟨rfl, hw'⟩; subst w')
    | (go_at_call 6; refine (px_live _).mono ?_; rintro e w3 ⟨rfl, hm⟩; have H3 := Hid.mk (More.trans H2.out hm); clear hm))
  go_ret
  exact ⟨rfl, H3.out⟩

set_option maxHeartbeats 3200000 in
set_option maxRecDepth 1000000 in
theorem makes_good (v : Value) (K : Nat) (f : Nat → Nat) (i : Int) (w : World) (h : ZRd w v K (fun j => (f j : Int))) (hb : K ≤ 80) (hf : sm f K ≤ 1099511627776) :
    Calls Try.prog 3 #[v, .int .i64 i] w fun e w' => e = .returned (.bool true) ∧ Below w.heap.size w w' := by
  have hw := fun w1 (hm : More w w1) => refx_good v K f w1 (h.more hm) (by omega) hf
  have hnew := px_new v K f w h (by omega) hf
  obtain ⟨ao, cap, rfl⟩ := h.shape
  have HH := Hid.mk (And.intro h hf)
  clear h hf
  go_enter Try.func3, Try.ntmps3
  go_wp2_with (first
    | (go_at_call 7; refine hnew.mono ?_; rintro e w1 ⟨s, rfl, hs, hm⟩; have H1 := Hid.mk (And.intro hs hm); clear hs hm hnew)
    | (go_at_call 8; refine (hw _ H1.out.2).mono ?_; rintro e w2 ⟨ao2, cap2, rfl, hz, hm⟩; have H2 := Hid.mk (And.intro (H1.out.1.more hm) (And.intro (More.trans H1.out.2 hm) hz)); clear hm hw hz)
    | (go_at_call 9; refine (pxn_len _).mono ?_; rintro e w' ⟨rfl, hw'⟩; subst w')
    | (go_at_call 10; refine (pxn_at _ _).mono ?_; rintro e w' ⟨rfl, hw'⟩; subst w')
    | (go_at_call 11; refine (pxn_total _).mono ?_; rintro e w' ⟨rfl, hw'⟩; subst w')
    | (go_at_call 12; refine (pxn_size _).mono ?_; rintro e w' ⟨rfl, hw'⟩; subst w'))
  clear H1
  go_loopw [10] (fun c wr => ∃ k : Nat, k ≤ K ∧ c = .int .i64 k ∧ Hid (More w2 wr)) (fun c _ => K - (intOf c).toNat)
  case atStart => exact ⟨0, Nat.zero_le _, rfl, Hid.mk (Below.refl _ _)⟩
  case round =>
    obtain ⟨k, hk, rfl, HR⟩ := hrel
    by_cases hkK : k < K
    · obtain ⟨b, o, rfl, hc⟩ := HH.out.1.cell (w' := wr) k hkK
      have hck := hc (More.trans H2.out.2.1 HR.out)
      have l1 : ∀ u : Lat wr, u.val.cell? ⟨b, o + k, none⟩ = some (.int .i64 (f k : Nat)) := fun u => (u.more.cell (p := ⟨b, o + k, none⟩) (World.block_lt_of_cell? wr _ hck)).trans hck
      have k1 : ∀ u : Lat wr, Calls Try.prog 10 #[.pointer (some ⟨s, 0, none⟩), .int .i64 k] u.val fun e w' => e = .returned (.int .i64 (f k : Nat)) ∧ ∃ u' : Lat wr, w' = u'.val := fun u => by
        have := px_at _ s f K k u.val (H2.out.1.more (More.trans HR.out u.more))
        rw [atZ_in f K k hkK] at this
        exact this.mono fun e w' ⟨he, hm⟩ => ⟨he, u.grown hm⟩
      have hne : Nonempty (Lat wr) := Lat.any wr
      generalize f k = x at *
      clear hc hck
      go_wp2
      refine wp_region_lat (by kernel_rfl) (by kernel_rfl) ?_
      repeat (quiet_step ((go_at_call 10; exact k1 _)))
      refine wpQuiet_nil ?_
      rintro _ ⟨u, rfl⟩
      have HU := Hid.mk (More.trans HR.out u.more)
      clear l1 k1
      go_wp2
      exact ⟨⟨k + 1, by omega, by go_num, HU⟩, by simp [intOf]; omega⟩
    · obtain rfl : k = K := by omega
      obtain ⟨b2, o2, rfl, hc⟩ := H2.out.2.2.cell (w' := wr) k (Nat.lt_succ_self k)
      have hck := hc HR.out
      have hat := fun u : Lat wr => H2.out.1.more (More.trans HR.out u.more)
      have hz := fun u : Lat wr => H2.out.2.2.more (More.trans HR.out u.more)
      have hl := fun u : Lat wr => HH.out.1.more (More.trans H2.out.2.1 (More.trans HR.out u.more))
      have l1 : ∀ u : Lat wr, u.val.cell? ⟨b2, o2 + k, none⟩ = some (.int .i64 (sm f k : Nat)) := fun u => (u.more.cell (p := ⟨b2, o2 + k, none⟩) (World.block_lt_of_cell? wr _ hck)).trans hck
      have kl : ∀ u : Lat wr, Calls Try.prog 9 #[.pointer (some ⟨s, 0, none⟩)] u.val fun e w' => e = .returned (.int .i64 k) ∧ ∃ u' : Lat wr, w' = u'.val := fun u => (px_len _ s f k u.val (hat u)).mono fun e w' ⟨he, hm⟩ => ⟨he, ⟨u, hm⟩⟩
      have ka : ∀ u : Lat wr, Calls Try.prog 10 #[.pointer (some ⟨s, 0, none⟩), .int .i64 i] u.val fun e w' => e = .returned (.int .i64 (atZ f k i)) ∧ ∃ u' : Lat wr, w' = u'.val := fun u => (px_at _ s f k i u.val (hat u)).mono fun e w' ⟨he, hm⟩ => ⟨he, u.grown hm⟩
      have ra : ∀ u : Lat wr, Calls Try.prog 13 #[.slice ao k cap, .int .i64 i] u.val fun e w' => e = .returned (.int .i64 (atZ f k i)) ∧ ∃ u' : Lat wr, w' = u'.val := fun u => (ref_at _ k f i u.val (hl u)).mono fun e w' ⟨he, hm⟩ => ⟨he, ⟨u, hm⟩⟩
      have kt : ∀ u : Lat wr, Calls Try.prog 11 #[.pointer (some ⟨s, 0, none⟩)] u.val fun e w' => e = .returned (.int .i64 (sm f k : Nat)) ∧ ∃ u' : Lat wr, w' = u'.val := fun u => (px_total _ s f k u.val (hat u)).mono fun e w' ⟨he, hm⟩ => ⟨he, u.grown hm⟩
      have kz : ∀ u : Lat wr, Calls Try.prog 12 #[.pointer (some ⟨s, 0, none⟩)] u.val fun e w' => e = .returned (.int .i64 (sizeN (sm f) (wdt (sm f) (k + 1)) (k + 1) : Nat)) ∧ ∃ u' : Lat wr, w' = u'.val := fun u => (px_size _ s f k u.val (hat u)).mono fun e w' ⟨he, hm⟩ => ⟨he, u.grown hm⟩
      have rz : ∀ u : Lat wr, Calls Try.prog 14 #[.slice (some ⟨b2, o2, none⟩) (k + 1) cap2] u.val fun e w' => e = .returned (.int .i64 (sizeN (sm f) (wdt (sm f) (k + 1)) (k + 1) : Nat)) ∧ ∃ u' : Lat wr, w' = u'.val := fun u => (ref_size _ (k + 1) (sm f) u.val (hz u) (sm_climbs HH.out.2) (by omega)).mono fun e w' ⟨he, hm⟩ => ⟨he, ⟨u, hm⟩⟩
      have kv : ∀ u : Lat wr, Calls Try.prog 6 #[] u.val fun e w' => e = .returned (.bool true) ∧ ∃ u' : Lat wr, w' = u'.val := fun u => (px_live _).mono fun e w' ⟨he, hm⟩ => ⟨he, u.grown hm⟩
      generalize atZ f k i = X at *
      generalize sizeN (sm f) (wdt (sm f) (k + 1)) (k + 1) = S at *
      have HT := Hid.mk (And.intro HH.out.1 H2.out.2.1)
      clear hc hck hat hz hl H2 HH
      generalize sm f k = T at *
      have hne : Nonempty (Lat wr) := Lat.any wr
      obtain ⟨M, hM⟩ : ∃ M, k + 1 = M := ⟨_, rfl⟩
      rw [hM] at rz ⊢
      have hkM : k < M := by omega
      clear hk hkK hM
      go_wp2
      refine wp_region_lat (by kernel_rfl) (by kernel_rfl) ?_
      repeat (quiet_step (first
        | (go_at_call 9; exact kl _)
        | (go_at_call 10; exact ka _)
        | (go_at_call 13; exact ra _)
        | (go_at_call 11; exact kt _)
        | (go_at_call 12; exact kz _)
        | (go_at_call 14; exact rz _)
        | (go_at_call 6; exact kv _)))
      refine wpQuiet_nil ?_
      rintro _ ⟨u, rfl⟩
      go_wp2
      go_ret
      exact ⟨rfl, More.trans HT.out.2 (More.trans HR.out u.more)⟩

theorem prefixMakes (v : Value) (K : Nat) (g : Nat → Int) (i : Int) (w : World) (h : ZRd w v K g) (hK : K ≤ 9223372036854775807) :
    Calls Try.prog 3 #[v, .int .i64 i] w fun e w' => e = .returned (.bool true) ∧ Below w.heap.size w w' := by
  by_cases hb : 80 < K
  · exact makes_big v K g i w h hK hb
  by_cases h0 : Fits g K
  · exact makes_good v K _ i w (fits_tell h h0) (by omega) h0.2
  · exact makes_bad v K g i w h (by omega) h0

theorem sums_big (v : Value) (K : Nat) (g : Nat → Int) (x y z : Int) (w : World) (h : ZRd w v K g) (hK : K ≤ 9223372036854775807) (hb : 80 < K) :
    Calls Try.prog 4 #[v, .agg #[.int .i64 x, .int .i64 y], .int .i64 z] w fun e w' => e = .returned (.bool true) ∧ Below w.heap.size w w' := by
  obtain ⟨ao, cap, rfl⟩ := h.shape
  clear h
  go_enter Try.func4, Try.ntmps4
  go_wp2_with (go_at_call 6; refine (px_live _).mono ?_; rintro e w1 ⟨rfl, hm⟩; have H1 := Hid.mk hm; clear hm)
  go_ret
  exact ⟨rfl, More.trans (more_alloc _ _) H1.out⟩
theorem sums_bad (v : Value) (K : Nat) (g : Nat → Int) (x y z : Int) (w : World) (h : ZRd w v K g) (hb : K ≤ 80) (h0 : ¬ Fits g K) :
    Calls Try.prog 4 #[v, .agg #[.int .i64 x, .int .i64 y], .int .i64 z] w fun e w' => e = .returned (.bool true) ∧ Below w.heap.size w w' := by
  have hw := refx_bad v K g _ (h.more (more_alloc w (.cells #[.int .i64 x, .int .i64 y] 35))) (by omega) h0
  obtain ⟨ao, cap, rfl⟩ := h.shape
  clear h h0
  go_enter Try.func4, Try.ntmps4
  go_wp2_with (first
    | (go_at_call 8; refine hw.mono ?_; rintro e w1 ⟨rfl, hm⟩; have H1 := Hid.mk (More.trans (more_alloc w _) hm); clear hm hw)
    | (go_at_call 6; refine (px_live _).mono ?_; rintro e w2 ⟨rfl, hm⟩; have H2 := Hid.mk (More.trans H1.out hm); clear hm))
  go_ret
  exact ⟨rfl, H2.out⟩

set_option maxHeartbeats 3200000 in
set_option maxRecDepth 1000000 in
theorem sums_good (v : Value) (K : Nat) (f : Nat → Nat) (x y z : Int) (w : World) (h : ZRd w v K (fun j => (f j : Int))) (hb : K ≤ 80) (hf : sm f K ≤ 1099511627776) (hz : z ≤ 9223372036854775807) :
    Calls Try.prog 4 #[v, .agg #[.int .i64 x, .int .i64 y], .int .i64 z] w fun e w' => e = .returned (.bool true) ∧ Below w.heap.size w w' := by
  obtain ⟨w0, hw0⟩ : ∃ w0, w.alloc (.cells #[.int .i64 x, .int .i64 y] 35) = w0 := ⟨_, rfl⟩
  have hm0 : More w w0 := by rw [← hw0]; exact more_alloc _ _
  have c0 : w0.cell? ⟨w.heap.size, 0, none⟩ = some (.int .i64 x) := by rw [← hw0]; simp
  have c1 : w0.cell? ⟨w.heap.size, 1, none⟩ = some (.int .i64 y) := by rw [← hw0]; simp
  have hw := refx_good v K f w0 (h.more hm0) (by omega) hf
  have hnew := fun w1 (hm : More w w1) => px_new v K f w1 (h.more hm) (by omega) hf
  have hs : ∀ s base w1, PxAt w1 base s f K → _ := fun s base w1 hs => px_sum base s f K x y w1 hs
  have ht : ∀ s base w1, PxAt w1 base s f K → _ := fun s base w1 hs => px_where base s f K z w1 hs
  have rs := fun w1 (hm : More w w1) => refx_sum v K f x y w1 (h.more hm) (by omega) hf
  have rt := fun w1 (hm : More w w1) => refx_where v K f z w1 (h.more hm) (by omega) hf hz
  obtain ⟨ao, cap, rfl⟩ := h.shape
  generalize sumZ f K x y = R at *
  generalize whereZ f K z = R2 at *
  have HH := Hid.mk (And.intro hm0 (And.intro c0 c1))
  clear h hf hm0 c0 c1
  go_enter Try.func4, Try.ntmps4
  go_wp2_with (first
    | (go_at_call 8; refine hw.mono ?_; rintro e w1 ⟨ao1, cap1, rfl, _, hm⟩; have H1 := Hid.mk hm; clear hm hw)
    | (go_at_call 7; refine (hnew _ (More.trans HH.out.1 H1.out)).mono ?_; rintro e w2 ⟨s, rfl, hp, hm⟩; have H2 := Hid.mk (And.intro hp (More.trans H1.out hm)); clear hp hm hnew))
  have hb0 := World.block_lt_of_cell? w0 _ HH.out.2.1
  have l0 : ∀ u : Lat w2, u.val.cell? ⟨w.heap.size, 0, none⟩ = some (.int .i64 x) := fun u => ((More.trans H2.out.2 u.more).cell (p := ⟨w.heap.size, 0, none⟩) hb0).trans HH.out.2.1
  have l1 : ∀ u : Lat w2, u.val.cell? ⟨w.heap.size, 1, none⟩ = some (.int .i64 y) := fun u => ((More.trans H2.out.2 u.more).cell (p := ⟨w.heap.size, 1, none⟩) hb0).trans HH.out.2.2
  have k1 : ∀ u : Lat w2, Calls Try.prog 15 #[.pointer (some ⟨s, 0, none⟩), .int .i64 x, .int .i64 y] u.val fun e w' => e = .returned (.int .i64 R) ∧ ∃ u' : Lat w2, w' = u'.val := fun u =>
    (hs s _ _ (H2.out.1.more u.more)).mono fun e w' ⟨he, hk⟩ => ⟨he, u.grown hk⟩
  have k2 : ∀ u : Lat w2, Calls Try.prog 16 #[.slice ao K cap, .int .i64 x, .int .i64 y] u.val fun e w' => e = .returned (.int .i64 R) ∧ ∃ u' : Lat w2, w' = u'.val := fun u =>
    (rs _ (More.trans HH.out.1 (More.trans H2.out.2 u.more))).mono fun e w' ⟨he, hk⟩ => ⟨he, ⟨u, hk⟩⟩
  have k3 : ∀ u : Lat w2, Calls Try.prog 17 #[.pointer (some ⟨s, 0, none⟩), .int .i64 z] u.val fun e w' => e = .returned (.int .i64 R2) ∧ ∃ u' : Lat w2, w' = u'.val := fun u =>
    (ht s _ _ (H2.out.1.more u.more)).mono fun e w' ⟨he, hk⟩ => ⟨he, u.grown hk⟩
  have k4 : ∀ u : Lat w2, Calls Try.prog 18 #[.slice ao K cap, .int .i64 z] u.val fun e w' => e = .returned (.int .i64 R2) ∧ ∃ u' : Lat w2, w' = u'.val := fun u =>
    (rt _ (More.trans HH.out.1 (More.trans H2.out.2 u.more))).mono fun e w' ⟨he, hk⟩ => ⟨he, ⟨u, hk⟩⟩
  have k5 : ∀ u : Lat w2, Calls Try.prog 15 #[.pointer none, .int .i64 x, .int .i64 y] u.val fun e w' => e = .returned (.int .i64 0) ∧ ∃ u' : Lat w2, w' = u'.val := fun u =>
    (pxn_sum x y _).mono fun e w' ⟨he, hk⟩ => ⟨he, ⟨u, hk⟩⟩
  have k6 : ∀ u : Lat w2, Calls Try.prog 17 #[.pointer none, .int .i64 z] u.val fun e w' => e = .returned (.int .i64 (-1)) ∧ ∃ u' : Lat w2, w' = u'.val := fun u =>
    (pxn_where z _).mono fun e w' ⟨he, hk⟩ => ⟨he, ⟨u, hk⟩⟩
  have k7 : ∀ u : Lat w2, Calls Try.prog 6 #[] u.val fun e w' => e = .returned (.bool true) ∧ ∃ u' : Lat w2, w' = u'.val := fun u =>
    (px_live _).mono fun e w' ⟨he, hk⟩ => ⟨he, u.grown hk⟩
  have hne : Nonempty (Lat w2) := Lat.any w2
  have HW := Hid.mk (More.trans HH.out.1 H2.out.2)
  clear hb0 H2 HH H1 hs ht rs rt
  refine wp_region_lat (by kernel_rfl) (by kernel_rfl) ?_
  repeat (quiet_step (first
    | (go_at_call 16; exact k2 _)
    | (go_at_call 18; exact k4 _)
    | (go_at_call 6; exact k7 _)
    | (go_at_call_of 15 (Value.pointer none); exact k5 _)
    | (go_at_call_of 17 (Value.pointer none); exact k6 _)
    | (go_at_call 15; exact k1 _)
    | (go_at_call 17; exact k3 _)))
  refine wpQuiet_nil ?_
  rintro _ ⟨u, rfl⟩
  go_wp2
  go_ret
  exact ⟨rfl, More.trans HW.out u.more⟩

theorem prefixSums (v : Value) (K : Nat) (g : Nat → Int) (x y z : Int) (w : World) (h : ZRd w v K g) (hK : K ≤ 9223372036854775807) (hz : z ≤ 9223372036854775807) :
    Calls Try.prog 4 #[v, .agg #[.int .i64 x, .int .i64 y], .int .i64 z] w fun e w' => e = .returned (.bool true) ∧ Below w.heap.size w w' := by
  by_cases hb : 80 < K
  · exact sums_big v K g x y z w h hK hb
  by_cases h0 : Fits g K
  · exact sums_good v K _ x y z w (fits_tell h h0) (by omega) h0.2 hz
  · exact sums_bad v K g x y z w h (by omega) h0

end Go.Proofs.Ytgcaenpflndibaa
