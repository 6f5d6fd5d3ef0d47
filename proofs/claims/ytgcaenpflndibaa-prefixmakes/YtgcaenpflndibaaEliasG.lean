/-
  elias: Next, Ahead, Find, Size; of nil too.
-/
import Derived.Test.YtgcaenpflndibaaEliasF
namespace Go.Proofs.Ytgcaenpflndibaa
open Go.RowKit

theorem el_ahead (base s : Nat) (v : Int) (f : Nat → Nat) (n : Nat) (w : World) (h : SeqAt w base s f n) (hv : -9223372036854775808 ≤ v) :
    Calls Try.prog 26 #[.pointer (some ⟨s, 0, none⟩), .int .i64 v] w fun e w' => e = .returned (.tuple #[.int .i64 (aheadZ f n v), .int .i64 (atZ f n (aheadZ f n v))]) ∧ More w w' := by
  have hb := el_below base s (min v 1099511627776 + 1) f n w h
  have ht := fun w1 (hm : More w w1) => el_told base s f n ((belI f (min v 1099511627776 + 1) n : Nat) - 1) w1 (h.more hm)
  have hle := belI_le f (min v 1099511627776 + 1) n
  have hn := h.num
  unfold aheadZ
  rw [atZ_place]
  generalize belI f (min v 1099511627776 + 1) n = B at *
  generalize placeZ n ((B : Int) - 1) = Y at *
  generalize atZ f n ((B : Int) - 1) = Z at *
  obtain ⟨m, hm⟩ : ∃ m, min v 1099511627776 = m := ⟨_, rfl⟩
  rw [hm] at hb
  have hm1 : -9223372036854775808 ≤ m := by omega
  have hm2 : m ≤ 1099511627776 := by omega
  clear h
  go_enter Try.func26, Try.ntmps26
  go_wp2_with (first
    | (go_at_call 36; refine hb.mono ?_; rintro e w1 ⟨rfl, hm⟩; have H1 := Hid.mk hm; clear hm hb)
    | (go_at_call 35; refine (ht _ H1.out).mono ?_; rintro e w2 ⟨rfl, hm⟩; have H2 := Hid.mk (More.trans H1.out hm); clear hm ht))
  go_ret2
  exact ⟨rfl, H2.out⟩
theorem eln_ahead (v : Int) (w : World) : Calls Try.prog 26 #[.pointer none, .int .i64 v] w fun e w' => e = .returned (.tuple #[.int .i64 (-1), .int .i64 (-1)]) ∧ w' = w := by
  go_enter Try.func26, Try.ntmps26
  go_wp2_with (first
    | (go_at_call 36; refine (eln_below _ _).mono ?_; rintro e w' ⟨rfl, hw⟩; subst w')
    | (go_at_call 35; refine (eln_told _ _).mono ?_; rintro e w' ⟨rfl, hw⟩; subst w'))
  go_ret2
  exact ⟨rfl, rfl⟩

set_option maxHeartbeats 800000 in
set_option maxRecDepth 1000000 in
theorem el_size (base s : Nat) (f : Nat → Nat) (n : Nat) (w : World) (h : SeqAt w base s f n) :
    Calls Try.prog 23 #[.pointer (some ⟨s, 0, none⟩)] w fun e w' => e = .returned (.int .i64 (sizeN f (wdt f n) n : Nat)) ∧ More w w' := by
  obtain ⟨p, d, hr⟩ := h.rd
  have hb := World.block_lt_of_cell? w _ hr.c0
  have l0 : ∀ u : Lat w, u.val.cell? ⟨s, 0, none⟩ = some (.pointer (some ⟨p, 0, none⟩)) := fun u => (u.more.cell (p := ⟨s, 0, none⟩) hb).trans hr.c0
  have l1 : ∀ u : Lat w, u.val.cell? ⟨s, 1, none⟩ = some (.pointer (some ⟨d, 0, none⟩)) := fun u => (u.more.cell (p := ⟨s, 1, none⟩) hb).trans hr.c1
  have kl : ∀ u : Lat w, Calls Try.prog 21 #[.pointer (some ⟨s, 0, none⟩)] u.val fun e w' => e = .returned (.int .i64 n) ∧ ∃ u' : Lat w, w' = u'.val := fun u =>
    (el_len base s f n _ (h.more u.more)).mono fun e w' ⟨he, hk⟩ => ⟨he, ⟨u, hk⟩⟩
  have kw : ∀ u : Lat w, Calls Try.prog 32 #[.pointer (some ⟨p, 0, none⟩)] u.val fun e w' => e = .returned (.int .i64 (wdt f n)) ∧ ∃ u' : Lat w, w' = u'.val := fun u =>
    (pack_width p _ _ n _ (hr.more u.more).pk.rd).mono fun e w' ⟨he, hk⟩ => ⟨he, ⟨u, hk⟩⟩
  have hN1 : sel (hV f (wdt f n) n) ((n : Int) - 1) (hN f (wdt f n) n) = (hN f (wdt f n) n : Nat) - 1 := by
    cases n with
    | zero => rw [sel_hp_out h.climbs _ _ (by omega)]; simp [hN]
    | succ n =>
      rw [show ((n + 1 : Nat) : Int) - 1 = (n : Nat) by omega, sel_hp h.climbs _ (Nat.lt_succ_self n), hN]
      omega
  have ko : ∀ u : Lat w, Calls Try.prog 33 #[.pointer (some ⟨d, 0, none⟩), .int .i64 ((n : Int) - 1)] u.val fun e w' => e = .returned (.int .i64 ((hN f (wdt f n) n : Nat) - 1)) ∧ ∃ u' : Lat w, w' = u'.val := fun u => by
    have := sdir_one d _ _ ((n : Int) - 1) base u.val (hr.more u.more).dr
    rw [hN1] at this
    exact this.mono fun e w' ⟨he, hk⟩ => ⟨he, u.grown hk⟩
  have hn := h.num
  have hd := wdt_le h.climbs
  have hNb := hN_bound h.climbs
  unfold sizeN
  obtain ⟨M, hM⟩ : ∃ M, n * wdt f n = M := ⟨_, rfl⟩
  have hMb : M ≤ 40000 := by rw [← hM]; exact Nat.mul_le_mul hn hd
  have e1 : (n : Int) * (wdt f n : Int) = M := by rw [← hM, Int.natCast_mul]
  rw [hM]
  generalize hN f (wdt f n) n = N at *
  generalize wdt f n = D at *
  have hne : Nonempty (Lat w) := Lat.any w
  have w1 : IntKind.i64.wrap (M : Int) = M := by rw [IntKind.wrap_i64]; omega
  have w2 : IntKind.i64.wrap ((n : Int) - 1) = (n : Int) - 1 := by rw [IntKind.wrap_i64]; omega
  have e2 : (M : Int) + ((N : Int) - 1) = ((M + N : Nat) : Int) - 1 := by omega
  have w3 : IntKind.i64.wrap (((M + N : Nat) : Int) - 1) = ((M + N : Nat) : Int) - 1 := by rw [IntKind.wrap_i64]; omega
  have w4 : IntKind.i64.wrap ((M + N : Nat) : Int) = ((M + N : Nat) : Int) := by rw [IntKind.wrap_i64]; omega
  generalize M + N = S at *
  clear h hr hb hN1 hM
  go_enter Try.func23, Try.ntmps23
  go_wp2
  refine wp_region_lat (by kernel_rfl) (by kernel_rfl) ?_
  repeat (quiet_step (first
    | (go_at_call 21; exact kl _)
    | (go_at_call 32; exact kw _)
    | (go_at_call 33; exact ko _)))
  refine wpQuiet_nil ?_
  rintro _ ⟨u, rfl⟩
  go_wp2
  go_ret
  exact ⟨by simp, u.more⟩
theorem eln_size (w : World) : Calls Try.prog 23 #[.pointer none] w fun e w' => e = .returned (.int .i64 0) ∧ w' = w := by
  go_enter Try.func23, Try.ntmps23
  go_wp2
  go_ret
  exact ⟨rfl, rfl⟩

end Go.Proofs.Ytgcaenpflndibaa
