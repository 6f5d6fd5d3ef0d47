/-
  shard: below, Next; what nil tells.
-/
import Derived.Test.YtheieibkbeckkaaDoorShardE
namespace Go.Proofs.YtheieibkbeckkaaDoor
open Go.RowKit

theorem shn_at (i : Int) (w : World) : Calls Tryd.prog 11 #[.pointer none, .int .i64 i] w fun e w' => e = .returned (.int .i64 (-1)) ∧ w' = w := by
  by_cases h0 : i < 0
  · go_enter Tryd.func11, Tryd.ntmps11
    go_wp2
    go_ret
    exact ⟨rfl, rfl⟩
  · have h1 : 0 ≤ i := by omega
    go_enter Tryd.func11, Tryd.ntmps11
    go_wp2_with (go_at_call 17; refine (shn_len _).mono ?_; rintro e w' ⟨rfl, hw⟩; subst w')
    go_ret
    exact ⟨rfl, rfl⟩

set_option maxHeartbeats 1600000 in
set_option maxRecDepth 1000000 in
theorem sh_below_none (base q : Nat) (f : Nat → Nat) (n : Nat) (v : Int) (w : World) (h : ShAt w base q f n) (hk : belI (frs f) v (prts n) = 0) :
    Calls Tryd.prog 16 #[.pointer (some ⟨q, 0, none⟩), .int .i64 v] w fun e w' => e = .returned (.int .i64 0) ∧ More w w' := by
  obtain ⟨s, vp, pv, hq, hs, hvp, hp⟩ := h.mem
  obtain ⟨c0, c1, c2, _⟩ := cells3 hq
  have hlt := lt_of_block hq
  have hnx := el_next base s v (frs f) (prts n) w hs
  obtain ⟨ap, cp, rfl⟩ := shape_of hvp
  have hZ : nextZ (frs f) (prts n) v = 0 ∨ (nextZ (frs f) (prts n) v = -1 ∧ prts n = 0) := by
    unfold nextZ placeZ
    rw [hk]
    by_cases h0 : prts n = 0
    · right; rw [if_neg (by omega)]; exact ⟨rfl, h0⟩
    · left; rw [if_pos (by omega)]; rfl
  clear hq hs hvp hp h hk
  generalize atZ (frs f) (prts n) (nextZ (frs f) (prts n) v) = Y at *
  generalize nextZ (frs f) (prts n) v = Z at *
  generalize prts n = K at *
  rcases hZ with rfl | ⟨rfl, rfl⟩
  all_goals
    go_enter Tryd.func16, Tryd.ntmps16
    go_wp2_with (go_at_call 27; refine hnx.mono ?_; rintro e w1 ⟨rfl, hm⟩; have H1 := Hid.mk hm; have d2 := (hm.cell (p := ⟨q, 2, none⟩) hlt).trans c2; clear hm hnx)
    go_ret
    exact ⟨rfl, H1.out⟩

set_option maxHeartbeats 3200000 in
set_option maxRecDepth 1000000 in
theorem sh_below_some (base q : Nat) (f : Nat → Nat) (n : Nat) (v : Int) (k B : Nat) (w : World) (h : ShAt w base q f n) (hk : belI (frs f) v (prts n) = k + 1) (hv : v ≤ 9223372036854775807)
    (hB : (B : Int) = 32 * k + min 32 (pbel (prt f k) (prtn n k) (v - frs f k))) :
    Calls Tryd.prog 16 #[.pointer (some ⟨q, 0, none⟩), .int .i64 v] w fun e w' => e = .returned (.int .i64 B) ∧ More w w' := by
  have hn := h.num
  have hkl := belI_le (frs f) v (prts n)
  have hkp : k < prts n := by omega
  have hkb : k ≤ 1000 := by unfold prts at hkp; omega
  obtain ⟨s, b, pv, cap, hr⟩ := h.rd (by have := prts_lt hkp; omega)
  have hfk : (frs f k : Int) < v := belI_lt (frs_climbs h.climbs) v (by omega)
  have hnx := el_next base s v (frs f) (prts n) w hr.seq
  have hea := fun w' (hm : More w w') => el_at base s (frs f) (prts n) (k : Nat) w' (hr.seq.more hm)
  rw [atZ_in _ _ _ hkp] at hea
  have hats := (hr.part k hkp).belows (v - frs f k)
  have hp0 := pbel_pos (prt f k) (prtn n k) (v - frs f k) (by omega)
  have c1 := hr.c1
  have c2 := hr.c2
  have c3 := hr.cp k hkp
  have l1 := World.block_lt_of_cell? w _ c1
  have l3 := World.block_lt_of_cell? w _ c3
  obtain ⟨K1, hK1⟩ : ∃ K1, K1 = k + 1 := ⟨_, rfl⟩
  have hZ : nextZ (frs f) (prts n) v = K1 ∨ (nextZ (frs f) (prts n) v = -1 ∧ prts n = K1) := by
    unfold nextZ placeZ
    rw [hk]
    by_cases h0 : k + 1 < prts n
    · left; rw [if_pos (by omega), hK1]
    · right; rw [if_neg (by omega)]; exact ⟨rfl, by omega⟩
  clear hk hr h hkl
  generalize atZ (frs f) (prts n) (nextZ (frs f) (prts n) v) = Y at *
  generalize nextZ (frs f) (prts n) v = Z at *
  generalize prts n = K at *
  generalize pv k = p at *
  obtain ⟨T, U, F, rfl, hF, hme, hat⟩ := hats
  generalize pbel (prt f k) (prtn n k) (v - frs f k) = P at *
  generalize frs f k = x at *
  obtain ⟨D, hD⟩ : ∃ D : Int, v - (x : Int) = D := ⟨_, rfl⟩
  rw [hD] at hat
  have hwD : IntKind.i64.wrap D = D := by rw [IntKind.wrap_i64]; omega
  obtain ⟨M, hM⟩ : ∃ M : Nat, (k : Int) * 32 = (M : Int) := ⟨k * 32, by omega⟩
  have hwM : IntKind.i64.wrap (M : Int) = (M : Int) := by rw [IntKind.wrap_i64]; omega
  obtain ⟨N, hN⟩ : ∃ N : Nat, min P 32 = (N : Int) := ⟨(min P 32).toNat, by omega⟩
  have hS : (M : Int) + (N : Int) = (B : Int) := by omega
  have hwB : IntKind.i64.wrap (B : Int) = (B : Int) := by rw [IntKind.wrap_i64]; omega
  have h1 : (K1 : Int) - 1 = (k : Int) := by omega
  have hwk : IntKind.i64.wrap (k : Int) = (k : Int) := by rw [IntKind.wrap_i64]; omega
  have h2 : ¬ (K1 : Int) < 0 := by omega
  have h3 : ¬ (K1 : Int) = 0 := by omega
  clear hB hp0 hfk hK1
  rcases hF with rfl | rfl | rfl <;> rcases hZ with rfl | ⟨rfl, rfl⟩
  all_goals
    go_enter Tryd.func16, Tryd.ntmps16
    go_wp2_with (go_at_call 27; refine hnx.mono ?_; rintro e w1 ⟨rfl, hm⟩; have H1 := Hid.mk hm; have d1 := (hm.cell (p := ⟨q, 1, none⟩) l1).trans c1; have d2 := (hm.cell (p := ⟨q, 2, none⟩) l1).trans c2; have d3 := (hm.cell (p := ⟨b, k, none⟩) l3).trans c3; clear hm hnx)
    go_region_held3 (fun w' => More w w' ∧ w'.cell? ⟨q, 1, none⟩ = some (.pointer (some ⟨s, 0, none⟩)) ∧ w'.cell? ⟨q, 2, none⟩ = some (.slice (some ⟨b, 0, none⟩) K cap) ∧ w'.cell? ⟨b, k, none⟩ = some (.iface T U))
      (first | assumption | exact held3 (by assumption) (by assumption) | exact held3 ⟨H1.out, d1, d2, d3⟩ (More.drewN _ 1))
      (first
        | (go_at_call 18; refine (hea _ (And.left (by assumption))).mono ?_; rintro e w2 ⟨rfl, hm2⟩)
        | (refine (hat _ (And.left (by assumption))).mono ?_; rintro e w3 ⟨rfl, hm3⟩))
    all_goals
      go_wp2
      go_ret
      exact ⟨rfl, And.left (by assumption)⟩

theorem sh_below (base q : Nat) (f : Nat → Nat) (n : Nat) (v : Int) (w : World) (h : ShAt w base q f n) (hv : v ≤ 9223372036854775807) :
    Calls Tryd.prog 16 #[.pointer (some ⟨q, 0, none⟩), .int .i64 v] w fun e w' => ∃ B : Nat, e = .returned (.int .i64 B) ∧ belI f v n = min B n ∧ More w w' := by
  cases hk : belI (frs f) v (prts n) with
  | zero =>
    refine (sh_below_none base q f n v w h hk).mono ?_
    rintro e w' ⟨rfl, hm⟩
    exact ⟨0, rfl, by rw [below_none h.climbs v hk]; omega, hm⟩
  | succ k =>
    have hkl := belI_le (frs f) v (prts n)
    have hfk : (frs f k : Int) < v := belI_lt (frs_climbs h.climbs) v (by omega)
    have hp0 := pbel_pos (prt f k) (prtn n k) (v - frs f k) (by omega)
    obtain ⟨B, hB⟩ : ∃ B : Nat, (B : Int) = 32 * k + min 32 (pbel (prt f k) (prtn n k) (v - frs f k)) := ⟨(32 * k + min 32 (pbel (prt f k) (prtn n k) (v - frs f k))).toNat, by omega⟩
    refine (sh_below_some base q f n v k B w h hk hv hB).mono ?_
    rintro e w' ⟨rfl, hm⟩
    exact ⟨B, rfl, below_some h.climbs v k B hk hB, hm⟩
theorem shn_below (v : Int) (w : World) : Calls Tryd.prog 16 #[.pointer none, .int .i64 v] w fun e w' => e = .returned (.int .i64 0) ∧ w' = w := by
  go_enter Tryd.func16, Tryd.ntmps16
  go_wp2
  go_ret
  exact ⟨rfl, rfl⟩

set_option maxHeartbeats 800000 in
set_option maxRecDepth 1000000 in
theorem sh_next (base q : Nat) (f : Nat → Nat) (n : Nat) (v : Int) (w : World) (h : ShAt w base q f n) (hv : v ≤ 9223372036854775807) :
    Calls Tryd.prog 9 #[.pointer (some ⟨q, 0, none⟩), .int .i64 v] w fun e w' => e = .returned (.tuple #[.int .i64 (nextZ f n v), .int .i64 (atZ f n (nextZ f n v))]) ∧ More w w' := by
  have hb := sh_below base q f n v w h hv
  have hl := fun w' (hm : More w w') => sh_len base q f n w' (h.more hm)
  have ha := fun (i : Int) w' (hm : More w w') => sh_at base q f n i w' (h.more hm)
  obtain ⟨X, hX⟩ : ∃ X, nextZ f n v = X := ⟨_, rfl⟩
  obtain ⟨Y, hY⟩ : ∃ Y, atZ f n X = Y := ⟨_, rfl⟩
  rw [hX, hY]
  have HX := Hid.mk (And.intro hX (And.intro hY h))
  clear hX hY h
  go_enter Tryd.func9, Tryd.ntmps9
  go_wp2_with (first
    | (go_at_call 16; refine hb.mono ?_; rintro e w1 ⟨B, rfl, he, hm⟩; have H1 := Hid.mk (And.intro he hm); clear he hm hb)
    | (go_at_call 17; refine (hl _ H1.out.2).mono ?_; rintro e w' ⟨rfl, hw⟩; subst w'; clear hl)
    | (go_at_call 11; refine (ha _ _ H1.out.2).mono ?_; rintro e w2 ⟨rfl, hm⟩; have H2 := Hid.mk (More.trans H1.out.2 hm); clear hm ha))
  · have hc : n ≤ B := by assumption
    have e1 : X = -1 := by rw [← HX.out.1]; unfold nextZ placeZ; rw [H1.out.1, if_neg (by omega)]
    have e2 : Y = -1 := by rw [← HX.out.2.1, e1]; exact atZ_out _ _ _ (by omega)
    go_ret2
    exact ⟨by rw [e1, e2]; rfl, H1.out.2⟩
  · have hc : ¬ n ≤ B := by assumption
    have e1 : X = (B : Int) := by rw [← HX.out.1]; unfold nextZ placeZ; rw [H1.out.1, if_pos (by omega)]; omega
    have e2 : Y = atZ f n (B : Int) := by rw [← HX.out.2.1, e1]
    go_ret2
    exact ⟨by rw [e1, e2]; rfl, H2.out⟩
theorem shn_next (v : Int) (w : World) : Calls Tryd.prog 9 #[.pointer none, .int .i64 v] w fun e w' => e = .returned (.tuple #[.int .i64 (-1), .int .i64 (-1)]) ∧ w' = w := by
  go_enter Tryd.func9, Tryd.ntmps9
  go_wp2_with (first
    | (go_at_call 16; refine (shn_below _ _).mono ?_; rintro e w' ⟨rfl, hw⟩; subst w')
    | (go_at_call 17; refine (shn_len _).mono ?_; rintro e w' ⟨rfl, hw⟩; subst w'))
  go_ret2
  exact ⟨rfl, rfl⟩

end Go.Proofs.YtheieibkbeckkaaDoor
