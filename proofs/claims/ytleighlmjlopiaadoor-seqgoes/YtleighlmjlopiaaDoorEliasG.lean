/-
  elias: Next, Ahead, Find, Size; of nil too.
-/
import Derived.Test.YtleighlmjlopiaaDoorEliasF
namespace Go.Proofs.YtleighlmjlopiaaDoor
open Go.RowKit

theorem el_next (base s : Nat) (v : Int) (f : Nat → Nat) (n : Nat) (w : World) (h : SeqAt w base s f n) :
    Calls Tryd.prog 9 #[.pointer (some ⟨s, 0, none⟩), .int .i64 v] w fun e w' => e = .returned (.tuple #[.int .i64 (nextZ f n v), .int .i64 (atZ f n (nextZ f n v))]) ∧ More w w' := by
  have hb := el_below base s v f n w h
  have ht := fun w1 (hm : More w w1) => el_told base s f n (belI f v n : Nat) w1 (h.more hm)
  unfold nextZ
  rw [atZ_place]
  generalize belI f v n = B at *
  generalize placeZ n (B : Int) = Y at *
  generalize atZ f n (B : Int) = Z at *
  clear h
  go_enter Tryd.func9, Tryd.ntmps9
  go_wp2_with (first
    | (go_at_call 21; refine hb.mono ?_; rintro e w1 ⟨rfl, hm⟩; have H1 := Hid.mk hm; clear hm hb)
    | (go_at_call 20; refine (ht _ H1.out).mono ?_; rintro e w2 ⟨rfl, hm⟩; have H2 := Hid.mk (More.trans H1.out hm); clear hm ht))
  go_ret2
  exact ⟨rfl, H2.out⟩
theorem eln_next (v : Int) (w : World) : Calls Tryd.prog 9 #[.pointer none, .int .i64 v] w fun e w' => e = .returned (.tuple #[.int .i64 (-1), .int .i64 (-1)]) ∧ w' = w := by
  go_enter Tryd.func9, Tryd.ntmps9
  go_wp2_with (first
    | (go_at_call 21; refine (eln_below _ _).mono ?_; rintro e w' ⟨rfl, hw⟩; subst w')
    | (go_at_call 20; refine (eln_told _ _).mono ?_; rintro e w' ⟨rfl, hw⟩; subst w'))
  go_ret2
  exact ⟨rfl, rfl⟩

theorem el_ahead (base s : Nat) (v : Int) (f : Nat → Nat) (n : Nat) (w : World) (h : SeqAt w base s f n) (hv : -9223372036854775808 ≤ v) :
    Calls Tryd.prog 10 #[.pointer (some ⟨s, 0, none⟩), .int .i64 v] w fun e w' => e = .returned (.tuple #[.int .i64 (aheadZ f n v), .int .i64 (atZ f n (aheadZ f n v))]) ∧ More w w' := by
  have hb := el_below base s (min v 1099511627776 + 1) f n w h
  have ht := fun w1 (hm : More w w1) => el_told base s f n ((belI f (min v 1099511627776 + 1) n : Nat) - 1) w1 (h.more hm)
  have hle := belI_le f (min v 1099511627776 + 1) n
  have hn := h.num
  unfold aheadZ
  rw [atZ_place]
  generalize belI f (min v 1099511627776 + 1) n = B at *
  generalize placeZ n ((B : Int) - 1) = Y at *
  generalize atZ f n ((B : Int) - 1) = Z at *
  obtain ⟨m, hm⟩ : ∃ m, min v 1099511627776 = m := ⟨_, rfl⟩
  rw [hm] at hb
  have hm1 : -9223372036854775808 ≤ m := by omega
  have hm2 : m ≤ 1099511627776 := by omega
  clear h
  go_enter Tryd.func10, Tryd.ntmps10
  go_wp2_with (first
    | (go_at_call 21; refine hb.mono ?_; rintro e w1 ⟨rfl, hm⟩; have H1 := Hid.mk hm; clear hm hb)
    | (go_at_call 20; refine (ht _ H1.out).mono ?_; rintro e w2 ⟨rfl, hm⟩; have H2 := Hid.mk (More.trans H1.out hm); clear hm ht))
  go_ret2
  exact ⟨rfl, H2.out⟩
theorem eln_ahead (v : Int) (w : World) : Calls Tryd.prog 10 #[.pointer none, .int .i64 v] w fun e w' => e = .returned (.tuple #[.int .i64 (-1), .int .i64 (-1)]) ∧ w' = w := by
  go_enter Tryd.func10, Tryd.ntmps10
  go_wp2_with (first
    | (go_at_call 21; refine (eln_below _ _).mono ?_; rintro e w' ⟨rfl, hw⟩; subst w')
    | (go_at_call 20; refine (eln_told _ _).mono ?_; rintro e w' ⟨rfl, hw⟩; subst w'))
  go_ret2
  exact ⟨rfl, rfl⟩

theorem el_find (base s : Nat) (lo hi v : Int) (f : Nat → Nat) (n : Nat) (w : World) (h : SeqAt w base s f n) :
    Calls Tryd.prog 11 #[.pointer (some ⟨s, 0, none⟩), .int .i64 lo, .int .i64 hi, .int .i64 v] w fun e w' => e = .returned (.int .i64 (findZ f n lo hi v)) ∧ More w w' := by
  have hb := el_below base s v f n w h
  have hl := fun w1 (hm : More w w1) => el_len base s f n w1 (h.more hm)
  have ha := fun w1 (hm : More w w1) => el_at base s f n (max lo (belI f v n : Nat)) w1 (h.more hm)
  unfold findZ
  generalize belI f v n = B at *
  obtain ⟨i, hi1⟩ : ∃ i, max lo (B : Int) = i := ⟨_, rfl⟩
  obtain ⟨t, ht⟩ : ∃ t, min hi (n : Int) = t := ⟨_, rfl⟩
  rw [hi1, ht]
  rw [hi1] at ha
  obtain ⟨Z, hZ⟩ : ∃ Z, atZ f n i = Z := ⟨_, rfl⟩
  rw [hZ]
  rw [hZ] at ha
  clear h hZ
  by_cases h1 : t ≤ i
  · rw [if_pos h1]
    go_enter Tryd.func11, Tryd.ntmps11
    go_wp2_with (first
      | (go_at_call 21; refine hb.mono ?_; rintro e w1 ⟨rfl, hm⟩; have H1 := Hid.mk hm; clear hm hb)
      | (go_at_call 22; refine (hl _ H1.out).mono ?_; rintro e w' ⟨rfl, hw⟩; subst w'))
    go_ret
    exact ⟨rfl, H1.out⟩
  · rw [if_neg h1]
    by_cases h2 : Z = v
    · rw [if_pos h2]
      subst h2
      go_enter Tryd.func11, Tryd.ntmps11
      go_wp2_with (first
        | (go_at_call 21; refine hb.mono ?_; rintro e w1 ⟨rfl, hm⟩; have H1 := Hid.mk hm; clear hm hb)
        | (go_at_call 22; refine (hl _ H1.out).mono ?_; rintro e w' ⟨rfl, hw⟩; subst w')
        | (go_at_call 23; refine (ha _ H1.out).mono ?_; rintro e w2 ⟨rfl, hm⟩; have H2 := Hid.mk (More.trans H1.out hm); clear hm ha))
      go_ret
      exact ⟨rfl, H2.out⟩
    · rw [if_neg h2]
      have h3 : (Z != v) = true := by simpa using h2
      go_enter Tryd.func11, Tryd.ntmps11
      go_wp2_with (first
        | (go_at_call 21; refine hb.mono ?_; rintro e w1 ⟨rfl, hm⟩; have H1 := Hid.mk hm; clear hm hb)
        | (go_at_call 22; refine (hl _ H1.out).mono ?_; rintro e w' ⟨rfl, hw⟩; subst w')
        | (go_at_call 23; refine (ha _ H1.out).mono ?_; rintro e w2 ⟨rfl, hm⟩; have H2 := Hid.mk (More.trans H1.out hm); clear hm ha))
      go_ret
      exact ⟨rfl, H2.out⟩
theorem eln_find (lo hi v : Int) (w : World) : Calls Tryd.prog 11 #[.pointer none, .int .i64 lo, .int .i64 hi, .int .i64 v] w fun e w' => e = .returned (.int .i64 (-1)) ∧ w' = w := by
  have hno : min hi (0 : Int) ≤ max lo (0 : Int) := by omega
  obtain ⟨i, hi1⟩ : ∃ i, max lo (0 : Int) = i := ⟨_, rfl⟩
  obtain ⟨t, ht⟩ : ∃ t, min hi (0 : Int) = t := ⟨_, rfl⟩
  rw [hi1, ht] at hno
  go_enter Tryd.func11, Tryd.ntmps11
  go_wp2_with (first
    | (go_at_call 21; refine (eln_below _ _).mono ?_; rintro e w' ⟨rfl, hw⟩; subst w')
    | (go_at_call 22; refine (eln_len _).mono ?_; rintro e w' ⟨rfl, hw⟩; subst w'))
  go_ret
  exact ⟨rfl, rfl⟩

set_option maxHeartbeats 800000 in
set_option maxRecDepth 1000000 in
theorem el_size (base s : Nat) (f : Nat → Nat) (n : Nat) (w : World) (h : SeqAt w base s f n) :
    Calls Tryd.prog 12 #[.pointer (some ⟨s, 0, none⟩)] w fun e w' => e = .returned (.int .i64 (sizeN f (wdt f n) n : Nat)) ∧ More w w' := by
  obtain ⟨p, d, hr⟩ := h.rd
  have hb := World.block_lt_of_cell? w _ hr.c0
  have l0 : ∀ u : Lat w, u.val.cell? ⟨s, 0, none⟩ = some (.pointer (some ⟨p, 0, none⟩)) := fun u => (u.more.cell (p := ⟨s, 0, none⟩) hb).trans hr.c0
  have l1 : ∀ u : Lat w, u.val.cell? ⟨s, 1, none⟩ = some (.pointer (some ⟨d, 0, none⟩)) := fun u => (u.more.cell (p := ⟨s, 1, none⟩) hb).trans hr.c1
  have kl : ∀ u : Lat w, Calls Tryd.prog 22 #[.pointer (some ⟨s, 0, none⟩)] u.val fun e w' => e = .returned (.int .i64 n) ∧ ∃ u' : Lat w, w' = u'.val := fun u =>
    (el_len base s f n _ (h.more u.more)).mono fun e w' ⟨he, hk⟩ => ⟨he, ⟨u, hk⟩⟩
  have kw : ∀ u : Lat w, Calls Tryd.prog 24 #[.pointer (some ⟨p, 0, none⟩)] u.val fun e w' => e = .returned (.int .i64 (wdt f n)) ∧ ∃ u' : Lat w, w' = u'.val := fun u =>
    (pack_width p _ _ n _ (hr.more u.more).pk.rd).mono fun e w' ⟨he, hk⟩ => ⟨he, ⟨u, hk⟩⟩
  have hN1 : sel (hV f (wdt f n) n) ((n : Int) - 1) (hN f (wdt f n) n) = (hN f (wdt f n) n : Nat) - 1 := by
    cases n with
    | zero => rw [sel_hp_out h.climbs _ _ (by omega)]; simp [hN]
    | succ n =>
      rw [show ((n + 1 : Nat) : Int) - 1 = (n : Nat) by omega, sel_hp h.climbs _ (Nat.lt_succ_self n), hN]
      omega
  have ko : ∀ u : Lat w, Calls Tryd.prog 25 #[.pointer (some ⟨d, 0, none⟩), .int .i64 ((n : Int) - 1)] u.val fun e w' => e = .returned (.int .i64 ((hN f (wdt f n) n : Nat) - 1)) ∧ ∃ u' : Lat w, w' = u'.val := fun u => by
    have := sdir_one d _ _ ((n : Int) - 1) base u.val (hr.more u.more).dr
    rw [hN1] at this
    exact this.mono fun e w' ⟨he, hk⟩ => ⟨he, u.grown hk⟩
  have hn := h.num
  have hd := wdt_le h.climbs
  have hNb := hN_bound h.climbs
  unfold sizeN
  obtain ⟨M, hM⟩ : ∃ M, n * wdt f n = M := ⟨_, rfl⟩
  have hMb : M ≤ 40000 := by rw [← hM]; exact Nat.mul_le_mul hn hd
  have e1 : (n : Int) * (wdt f n : Int) = M := by rw [← hM, Int.natCast_mul]
  rw [hM]
  generalize hN f (wdt f n) n = N at *
  generalize wdt f n = D at *
  have hne : Nonempty (Lat w) := Lat.any w
  have w1 : IntKind.i64.wrap (M : Int) = M := by rw [IntKind.wrap_i64]; omega
  have w2 : IntKind.i64.wrap ((n : Int) - 1) = (n : Int) - 1 := by rw [IntKind.wrap_i64]; omega
  have e2 : (M : Int) + ((N : Int) - 1) = ((M + N : Nat) : Int) - 1 := by omega
  have w3 : IntKind.i64.wrap (((M + N : Nat) : Int) - 1) = ((M + N : Nat) : Int) - 1 := by rw [IntKind.wrap_i64]; omega
  have w4 : IntKind.i64.wrap ((M + N : Nat) : Int) = ((M + N : Nat) : Int) := by rw [IntKind.wrap_i64]; omega
  generalize M + N = S at *
  clear h hr hb hN1 hM
  go_enter Tryd.func12, Tryd.ntmps12
  go_wp2
  refine wp_region_lat (by kernel_rfl) (by kernel_rfl) ?_
  repeat (quiet_step (first
    | (go_at_call 22; exact kl _)
    | (go_at_call 24; exact kw _)
    | (go_at_call 25; exact ko _)))
  refine wpQuiet_nil ?_
  rintro _ ⟨u, rfl⟩
  go_wp2
  go_ret
  exact ⟨by simp, u.more⟩
theorem eln_size (w : World) : Calls Tryd.prog 12 #[.pointer none] w fun e w' => e = .returned (.int .i64 0) ∧ w' = w := by
  go_enter Tryd.func12, Tryd.ntmps12
  go_wp2
  go_ret
  exact ⟨rfl, rfl⟩

end Go.Proofs.YtleighlmjlopiaaDoor
