/-
  WindowCounts, walked.
-/
import Derived.Test.YtiiflegfbieblaaWinLawA
import Derived.Deep.RegionHeld
namespace Go.Proofs.Ytiiflegfbieblaa
open Go.RowKit

theorem held_at {w w' : World} {p : Addr} {u : Value} (h : w.cell? p = some u) (k : More w w') : w'.cell? p = some u := (k.cell (World.block_lt_of_cell? _ _ h)).trans h
theorem More.of_drewN {w w' : World} {m : Nat} (h : w' = w.drewN m) : More w w' := by rw [h]; exact More.drewN _ _
theorem held_q {wr w w' : World} {B : Nat} {q0 q1 q2 : Int} (h : More wr w ∧ w.cell? ⟨B, 0, none⟩ = some (.int .i64 q0) ∧ w.cell? ⟨B, 1, none⟩ = some (.int .i64 q1) ∧ w.cell? ⟨B, 2, none⟩ = some (.int .i64 q2)) (k : More w w') :
    More wr w' ∧ w'.cell? ⟨B, 0, none⟩ = some (.int .i64 q0) ∧ w'.cell? ⟨B, 1, none⟩ = some (.int .i64 q1) ∧ w'.cell? ⟨B, 2, none⟩ = some (.int .i64 q2) :=
  ⟨More.trans h.1 k, held_at h.2.1 k, held_at h.2.2.1 k, held_at h.2.2.2 k⟩
theorem held_q5 {wr w w' : World} {B : Nat} {q0 q1 q2 : Int} {p : Addr} {u : Value} (h : More wr w ∧ w.cell? ⟨B, 0, none⟩ = some (.int .i64 q0) ∧ w.cell? ⟨B, 1, none⟩ = some (.int .i64 q1) ∧ w.cell? ⟨B, 2, none⟩ = some (.int .i64 q2) ∧ w.cell? p = some u) (k : More w w') :
    More wr w' ∧ w'.cell? ⟨B, 0, none⟩ = some (.int .i64 q0) ∧ w'.cell? ⟨B, 1, none⟩ = some (.int .i64 q1) ∧ w'.cell? ⟨B, 2, none⟩ = some (.int .i64 q2) ∧ w'.cell? p = some u :=
  ⟨More.trans h.1 k, held_at h.2.1 k, held_at h.2.2.1 k, held_at h.2.2.2.1 k, held_at h.2.2.2.2 k⟩

set_option maxRecDepth 1000000 in
set_option maxHeartbeats 6400000 in
theorem windowCounts (a b : Value) (L : List (List Int)) (g : List Int) (q0 q1 q2 : Int) (w : World) (ha : LL w a L) (hb : IL w b g) (hbc : Cap b) (hq0 : q0 ≤ 9223372036854775807) (hq1 : q1 ≤ 9223372036854775807) :
    Calls Try.prog 6 #[a, b, .agg #[.int .i64 q0, .int .i64 q1, .int .i64 q2]] w fun e w' => e = .returned (.bool true) ∧ More w w' := by
  have hlv := fun w => live_true w
  obtain ⟨w1, hw1⟩ : ∃ w1, w.alloc (.cells #[.int .i64 q0, .int .i64 q1, .int .i64 q2] 48) = w1 := ⟨_, rfl⟩
  have hm1 : More w w1 := by rw [← hw1]; exact more_alloc _ _
  have hbq : w1.heap[w.heap.size]? = some (.cells #[.int .i64 q0, .int .i64 q1, .int .i64 q2] 48 (0, 0)) := by rw [← hw1]; exact heap_alloc_new _ _
  by_cases h1 : 12 < L.length
  · obtain ⟨ao, ca, rfl⟩ := ha.shape
    obtain ⟨bo, cb, rfl⟩ := hb.shape
    have h1' : (12 : Int) < L.length := by omega
    have HM := Hid.mk hm1
    generalize L.length = n at *
    generalize g.length = m at *
    clear ha hb hbc hm1 hbq
    go_enter Try.func6, Try.ntmps6
    go_wp2_with (go_at_call 8; refine (hlv _).mono ?_; rintro e w2 ⟨rfl, hm⟩)
    go_ret
    exact ⟨rfl, More.trans HM.out hm⟩
  have h1' : ¬ (12 : Int) < L.length := by omega
  by_cases h2 : 30 < g.length
  · obtain ⟨ao, ca, rfl⟩ := ha.shape
    obtain ⟨bo, cb, rfl⟩ := hb.shape
    have h2' : (30 : Int) < g.length := by omega
    have HM := Hid.mk hm1
    generalize L.length = n at *
    generalize g.length = m at *
    clear ha hb hbc hm1 hbq
    go_enter Try.func6, Try.ntmps6
    go_wp2_with (go_at_call 8; refine (hlv _).mono ?_; rintro e w2 ⟨rfl, hm⟩)
    go_ret
    exact ⟨rfl, More.trans HM.out hm⟩
  have h2' : ¬ (30 : Int) < g.length := by omega
  have HA := Hid.mk (And.intro (ha.more hm1) (And.intro (hb.more hm1) (And.intro hbc (And.intro hm1 hbq))))
  obtain ⟨ao, ca, rfl⟩ := ha.shape
  obtain ⟨bo, cb, rfl⟩ := hb.shape
  obtain ⟨K, hK⟩ : ∃ K, L.length = K := ⟨_, rfl⟩
  obtain ⟨N, hN⟩ : ∃ N, g.length = N := ⟨_, rfl⟩
  have HK := Hid.mk (And.intro hK hN)
  rw [hK] at h1 h1' HA ⊢
  rw [hN] at h2 h2' HA ⊢
  clear ha hb hbc hm1 hbq hK hN
  go_enter Try.func6, Try.ntmps6
  go_wp2
  clear hw1
  go_loopw [7] (fun i wr => ∃ r : Nat, r ≤ K ∧ i = .int .i64 r ∧ (∀ j, j < r → (L.getD j []).length ≤ 30) ∧ wr = w1) (fun i _ => K - (intOf i).toNat)
  case atStart => exact ⟨0, by omega, rfl, (fun j h => by omega), rfl⟩
  case round =>
    obtain ⟨r, hr, rfl, hsm, rfl⟩ := hrel
    by_cases hlt : r < K
    · obtain ⟨gb, ob, pu, rfl, hgb, cp, hP, _⟩ := HA.out.1.at (j := r) (by rw [HK.out.1]; exact hlt)
      obtain ⟨po, pc, rfl⟩ := hP.shape
      obtain ⟨pl, hpl⟩ : ∃ pl, (L.getD r []).length = pl := ⟨_, rfl⟩
      rw [hpl] at cp
      have HS := Hid.mk (And.intro hsm hpl)
      clear hP hsm hpl
      by_cases hbig : 30 < pl
      · have hbig' : (30 : Int) < pl := by omega
        go_wp2_with (go_at_call 8; refine (hlv _).mono ?_; rintro e w2 ⟨rfl, hm⟩)
        go_ret
        exact ⟨rfl, More.trans HA.out.2.2.2.1 hm⟩
      · have hbig' : ¬ (30 : Int) < pl := by omega
        go_wp2
        go_roundw
        case rel => exact ⟨r + 1, by omega, by go_num, (fun j hj => by
          by_cases hjr : j = r
          · subst hjr; rw [HS.out.2]; omega
          · exact HS.out.1 j (by omega)), trivial⟩
        case measure => simp [intOf]; omega
    · obtain rfl : r = K := by omega
      have hx : ∀ x ∈ L, x.length ≤ 30 := fun x hx => by
        obtain ⟨j, hj, rfl⟩ := List.getElem_of_mem hx
        have := hsm j (by rw [← HK.out.1]; exact hj)
        rwa [List.getD_eq_getElem?_getD, List.getElem?_eq_getElem hj] at this
      have hc1 := fun W (hm : More wr W) => w_count (.slice ao r ca) (.slice bo N cb) L g W (HA.out.1.more hm) (HA.out.2.1.more hm) (by rw [HK.out.1]; omega) hx (by rw [HK.out.2]; omega)
      have hc2 := fun W (hm : More wr W) => rf_count (.slice ao r ca) (.slice bo N cb) L g W (HA.out.1.more hm) (HA.out.2.1.more hm) (by rw [HK.out.1]; omega) hx (by rw [HK.out.2]; omega)
      have HX := Hid.mk hx
      generalize (eac L (g.length : Int)).count g = C at *
      have HB := Hid.mk HA.out.2.2.2
      clear hx hsm
      by_cases hin : 0 ≤ q2 ∧ q2 < (r : Int)
      · obtain ⟨Q, rfl⟩ : ∃ Q : Nat, q2 = Q := ⟨q2.toNat, by omega⟩
        have hQr : Q < r := by omega
        have hQi : (Q : Int) < (r : Int) := by omega
        obtain ⟨gb, ob, pu, rfl, hgb, cp, hP, hPc⟩ := HA.out.1.at (j := Q) (by rw [HK.out.1]; exact hQr)
        have hPl : (L.getD Q []).length ≤ 30 := HX.out _ (getD_in (by rw [HK.out.1]; exact hQr))
        obtain ⟨P, hPe⟩ : ∃ P, L.getD Q [] = P := ⟨_, rfl⟩
        rw [hPe] at hP hPl
        have hah := fun W (hm : More wr W) => w_ahead pu P q0 q1 W (hP.more hm) hPc (by omega) hq1
        have hra := fun W (hm : More wr W) => rf_ahead pu P q0 q1 W (hP.more hm) (by omega) hq1
        have hal : (ahd P q0 q1).length ≤ 1000000 := by
          by_cases hz : q1 < 1 ∨ q0 < 0 ∨ (P.length : Int) < q0
          · rw [ahd_none hz]; decide
          · rw [ahd_some (by omega) (by omega) (by omega), List.length_drop, List.length_take]; omega
        obtain ⟨R, hR⟩ : ∃ R, ahd P q0 q1 = R := ⟨_, rfl⟩
        rw [hR] at hah hra hal
        have his := fun (x y : Value) (W : World) (B1 B2 : Nat) (h1 : NL W B1 x R) (h2 : NL W B2 y R) => rf_intsD x y R R W h1.il h2.il hal
        rw [decide_eq_true rfl] at his
        clear hP hPc hPe hR hin
        go_wp2_with (first
          | (go_at_call 20; refine (hc1 _ (More.refl _)).mono ?_; rintro e w2 ⟨rfl, hM⟩; have H2 := Hid.mk hM; clear hM hc1)
          | (go_at_call 21; refine (hc2 _ H2.out).mono ?_; rintro e w3 ⟨rfl, hM⟩; obtain ⟨c0, c1, c2, _⟩ := wcells3 ((More.trans H2.out hM).at HB.out.2); have cp3 := held_at cp (More.trans H2.out hM); have H3 := Hid.mk (More.trans H2.out hM); clear hM hc2))
        have hS0 : More wr w3 ∧ w3.cell? ⟨w.heap.size, 0, none⟩ = some (.int .i64 q0) ∧ w3.cell? ⟨w.heap.size, 1, none⟩ = some (.int .i64 q1) ∧ w3.cell? ⟨w.heap.size, 2, none⟩ = some (.int .i64 (Q : Int)) ∧ w3.cell? ⟨gb, ob + Q, none⟩ = some pu := ⟨H3.out, c0, c1, c2, cp3⟩
        clear cp cp3 c0 c1 c2
        go_region_held (fun w' => More wr w' ∧ w'.cell? ⟨w.heap.size, 0, none⟩ = some (.int .i64 q0) ∧ w'.cell? ⟨w.heap.size, 1, none⟩ = some (.int .i64 q1) ∧ w'.cell? ⟨w.heap.size, 2, none⟩ = some (.int .i64 (Q : Int)) ∧ w'.cell? ⟨gb, ob + Q, none⟩ = some pu)
          (first | assumption | exact held_q5 (by assumption) (by assumption) | exact held_q5 (by assumption) (More.drewN _ 1))
          (first
            | (go_at_call 22; refine (hah _ (And.left (by assumption))).mono ?_; rintro e w5 ⟨r5, rfl, hN5, hM5⟩; have HN5 := Hid.mk hN5; obtain ⟨o5, c5, rfl⟩ := hN5.shape)
            | (go_at_call 23; refine (hra _ (And.left (by assumption))).mono ?_; rintro e w6 ⟨r6, rfl, hN6, hM6⟩; have HN6 := Hid.mk hN6; obtain ⟨o6, c6, rfl⟩ := hN6.shape)
            | (go_at_call 10; refine (his _ _ _ _ _ (by first | exact hN5 | exact hN5.more hM6) (by first | exact hN6 | exact hN6.more hM5)).mono ?_; rintro e w7 ⟨rfl, q, hw7⟩; have hM7 := More.of_drewN hw7; clear hw7)
            | (go_at_call 8; refine (hlv _).mono ?_; rintro e w8 ⟨rfl, hM8⟩))
        all_goals
          have hf := And.left (show More wr w8 ∧ w8.cell? ⟨w.heap.size, 0, none⟩ = some (.int .i64 q0) ∧ w8.cell? ⟨w.heap.size, 1, none⟩ = some (.int .i64 q1) ∧ w8.cell? ⟨w.heap.size, 2, none⟩ = some (.int .i64 (Q : Int)) ∧ w8.cell? ⟨gb, ob + Q, none⟩ = some pu by assumption)
          have HF := Hid.mk (More.trans HB.out.1 hf)
          clear hf
          go_wp2
          go_ret
          exact ⟨rfl, HF.out⟩
      · have hah := fun W (hm : More wr W) => w_ahead (.slice bo N cb) g q0 q1 W (HA.out.2.1.more hm) HA.out.2.2.1 (by rw [HK.out.2]; omega) hq1
        have hra := fun W (hm : More wr W) => rf_ahead (.slice bo N cb) g q0 q1 W (HA.out.2.1.more hm) (by rw [HK.out.2]; omega) hq1
        have hal : (ahd g q0 q1).length ≤ 1000000 := by
          have hN := HK.out.2
          by_cases hz : q1 < 1 ∨ q0 < 0 ∨ (g.length : Int) < q0
          · rw [ahd_none hz]; decide
          · rw [ahd_some (by omega) (by omega) (by omega), List.length_drop, List.length_take]; omega
        obtain ⟨R, hR⟩ : ∃ R, ahd g q0 q1 = R := ⟨_, rfl⟩
        rw [hR] at hah hra hal
        have his := fun (x y : Value) (W : World) (B1 B2 : Nat) (h1 : NL W B1 x R) (h2 : NL W B2 y R) => rf_intsD x y R R W h1.il h2.il hal
        rw [decide_eq_true rfl] at his
        have HQ := Hid.mk hin
        clear hR
        by_cases hq : 0 ≤ q2
        · have hq' : ¬ q2 < (r : Int) := fun h => hin ⟨hq, h⟩
          clear hin
          go_wp2_with (first
            | (go_at_call 20; refine (hc1 _ (More.refl _)).mono ?_; rintro e w2 ⟨rfl, hM⟩; have H2 := Hid.mk hM; clear hM hc1)
            | (go_at_call 21; refine (hc2 _ H2.out).mono ?_; rintro e w3 ⟨rfl, hM⟩; obtain ⟨c0, c1, c2, _⟩ := wcells3 ((More.trans H2.out hM).at HB.out.2); have H3 := Hid.mk (More.trans H2.out hM); clear hM hc2))
          have hS0 : More wr w3 ∧ w3.cell? ⟨w.heap.size, 0, none⟩ = some (.int .i64 q0) ∧ w3.cell? ⟨w.heap.size, 1, none⟩ = some (.int .i64 q1) ∧ w3.cell? ⟨w.heap.size, 2, none⟩ = some (.int .i64 q2) := ⟨H3.out, c0, c1, c2⟩
          clear c0 c1 c2
          go_region_held (fun w' => More wr w' ∧ w'.cell? ⟨w.heap.size, 0, none⟩ = some (.int .i64 q0) ∧ w'.cell? ⟨w.heap.size, 1, none⟩ = some (.int .i64 q1) ∧ w'.cell? ⟨w.heap.size, 2, none⟩ = some (.int .i64 q2))
            (first | assumption | exact held_q (by assumption) (by assumption) | exact held_q (by assumption) (More.drewN _ 1))
            (first
              | (go_at_call 22; refine (hah _ (And.left (by assumption))).mono ?_; rintro e w5 ⟨r5, rfl, hN5, hM5⟩; have HN5 := Hid.mk hN5; obtain ⟨o5, c5, rfl⟩ := hN5.shape)
              | (go_at_call 23; refine (hra _ (And.left (by assumption))).mono ?_; rintro e w6 ⟨r6, rfl, hN6, hM6⟩; have HN6 := Hid.mk hN6; obtain ⟨o6, c6, rfl⟩ := hN6.shape)
              | (go_at_call 10; refine (his _ _ _ _ _ (by first | exact hN5 | exact hN5.more hM6) (by first | exact hN6 | exact hN6.more hM5)).mono ?_; rintro e w7 ⟨rfl, q, hw7⟩; have hM7 := More.of_drewN hw7; clear hw7)
              | (go_at_call 8; refine (hlv _).mono ?_; rintro e w8 ⟨rfl, hM8⟩))
          all_goals
            have hf := And.left (show More wr w8 ∧ w8.cell? ⟨w.heap.size, 0, none⟩ = some (.int .i64 q0) ∧ w8.cell? ⟨w.heap.size, 1, none⟩ = some (.int .i64 q1) ∧ w8.cell? ⟨w.heap.size, 2, none⟩ = some (.int .i64 q2) by assumption)
            have HF := Hid.mk (More.trans HB.out.1 hf)
            clear hf
            go_wp2
            go_ret
            exact ⟨rfl, HF.out⟩
        · clear hin
          go_wp2_with (first
            | (go_at_call 20; refine (hc1 _ (More.refl _)).mono ?_; rintro e w2 ⟨rfl, hM⟩; have H2 := Hid.mk hM; clear hM hc1)
            | (go_at_call 21; refine (hc2 _ H2.out).mono ?_; rintro e w3 ⟨rfl, hM⟩; obtain ⟨c0, c1, c2, _⟩ := wcells3 ((More.trans H2.out hM).at HB.out.2); have H3 := Hid.mk (More.trans H2.out hM); clear hM hc2))
          have hS0 : More wr w3 ∧ w3.cell? ⟨w.heap.size, 0, none⟩ = some (.int .i64 q0) ∧ w3.cell? ⟨w.heap.size, 1, none⟩ = some (.int .i64 q1) ∧ w3.cell? ⟨w.heap.size, 2, none⟩ = some (.int .i64 q2) := ⟨H3.out, c0, c1, c2⟩
          clear c0 c1 c2
          go_region_held (fun w' => More wr w' ∧ w'.cell? ⟨w.heap.size, 0, none⟩ = some (.int .i64 q0) ∧ w'.cell? ⟨w.heap.size, 1, none⟩ = some (.int .i64 q1) ∧ w'.cell? ⟨w.heap.size, 2, none⟩ = some (.int .i64 q2))
            (first | assumption | exact held_q (by assumption) (by assumption) | exact held_q (by assumption) (More.drewN _ 1))
            (first
              | (go_at_call 22; refine (hah _ (And.left (by assumption))).mono ?_; rintro e w5 ⟨r5, rfl, hN5, hM5⟩; have HN5 := Hid.mk hN5; obtain ⟨o5, c5, rfl⟩ := hN5.shape)
              | (go_at_call 23; refine (hra _ (And.left (by assumption))).mono ?_; rintro e w6 ⟨r6, rfl, hN6, hM6⟩; have HN6 := Hid.mk hN6; obtain ⟨o6, c6, rfl⟩ := hN6.shape)
              | (go_at_call 10; refine (his _ _ _ _ _ (by first | exact hN5 | exact hN5.more hM6) (by first | exact hN6 | exact hN6.more hM5)).mono ?_; rintro e w7 ⟨rfl, q, hw7⟩; have hM7 := More.of_drewN hw7; clear hw7)
              | (go_at_call 8; refine (hlv _).mono ?_; rintro e w8 ⟨rfl, hM8⟩))
          all_goals
            have hf := And.left (show More wr w8 ∧ w8.cell? ⟨w.heap.size, 0, none⟩ = some (.int .i64 q0) ∧ w8.cell? ⟨w.heap.size, 1, none⟩ = some (.int .i64 q1) ∧ w8.cell? ⟨w.heap.size, 2, none⟩ = some (.int .i64 q2) by assumption)
            have HF := Hid.mk (More.trans HB.out.1 hf)
            clear hf
            go_wp2
            go_ret
            exact ⟨rfl, HF.out⟩
end Go.Proofs.Ytiiflegfbieblaa
