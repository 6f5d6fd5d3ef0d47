/-
  The document's Count and Same; slices.Grow of nil; appends of ints.
-/
import Derived.Test.YtiiflegfbieblaaWinH
import Derived.Lib.AppendZeros
namespace Go.Proofs.Ytiiflegfbieblaa
open Go.RowKit

set_option maxRecDepth 1000000 in
set_option maxHeartbeats 1600000 in
theorem rf_count (v u : Value) (L : List (List Int)) (g : List Int) (w : World) (h : LL w v L) (hu : IL w u g) (hl : L.length ≤ 12) (hx : ∀ x ∈ L, x.length ≤ 30) (hg : g.length ≤ 30) :
    Calls Try.prog 21 #[v, u] w fun e w' => e = .returned (.int .i64 ((eac L g.length).count g : Nat)) ∧ More w w' := by
  have hea := rf_each v L g.length w h hl hx (by omega)
  have HU := Hid.mk hu
  have hal := eac_take_len L (g.length : Int) hx hl L.length
  rw [List.take_length] at hal
  have hmem := fun x (hx : x ∈ eac L (g.length : Int)) => eac_mem hx
  obtain ⟨ao, cap, rfl⟩ := h.shape
  obtain ⟨uo, uc, rfl⟩ := hu.shape
  obtain ⟨N, hN⟩ : ∃ N, g.length = N := ⟨_, rfl⟩
  have HN := Hid.mk (And.intro hN hmem)
  rw [hN] at hea hg hal HU HN ⊢
  have HA := Hid.mk (ctk_all (eac L (N : Int)) g)
  generalize eac L (N : Int) = A at *
  obtain ⟨K, hK⟩ : ∃ K, A.length = K := ⟨_, rfl⟩
  have HK := Hid.mk hK
  rw [hK] at hal HA
  clear h hu hx hN hmem hK
  go_enter Try.func21, Try.ntmps21
  go_wp2_with (go_at_call 18; refine hea.mono ?_; rintro e w1 ⟨r1, rfl, hE, hM⟩; obtain ⟨ro, rc, rfl⟩ := hE.shape; rw [HK.out]; have H1 := Hid.mk (And.intro hE hM); clear hE hM hea)
  rw [HK.out] at H1
  go_loopw [5, 7] (fun c i wr => ∃ r : Nat, r ≤ K ∧ i = .int .i64 r ∧ c = .int .i64 (ctk A g r : Nat) ∧ More w1 wr) (fun _ i _ => K - (intOf i).toNat)
  case atStart => exact ⟨0, by omega, rfl, by rw [ctk_zero]; rfl, More.refl w1⟩
  case round =>
    obtain ⟨r, hr, rfl, rfl, hR⟩ := hrel
    have hck := ctk_le A g r
    by_cases hlt : r < K
    · have hlA : r < A.length := by rw [HK.out]; exact hlt
      obtain ⟨gx, x, rfl, cx, hxl⟩ := H1.out.1.at hlA
      have cx2 := (hR.cell (World.block_lt_of_cell? _ _ cx)).trans cx
      have hM := More.trans H1.out.2 hR
      have hgl : (A.getD r []).length = N := by have := HN.out.2 _ (getD_in (d := []) hlA); omega
      have heq := rf_intsD x (.slice uo N uc) (A.getD r []) g wr (hxl.more hM) (HU.out.more hM) (by omega)
      have HR := Hid.mk hR
      by_cases he : A.getD r [] = g
      · rw [decide_eq_true he] at heq
        have HT := Hid.mk (ctk_yes hlA he)
        obtain ⟨C, hC⟩ : ∃ C, ctk A g r = C := ⟨_, rfl⟩
        rw [hC] at HT hck ⊢
        clear hxl hM he cx hR hC hgl
        go_wp2_with (go_at_call 10; refine heq.mono ?_; rintro e w2 ⟨rfl, q, hw2⟩; have H2 := Hid.mk (show More w1 w2 by rw [hw2]; exact More.trans HR.out (More.drewN _ _)); clear hw2)
        go_roundw
        case rel => exact ⟨r + 1, by omega, by go_num, by rw [HT.out]; go_num, H2.out⟩
        case measure => simp [intOf]; omega
      · rw [decide_eq_false he] at heq
        have HT := Hid.mk (ctk_no hlA he)
        obtain ⟨C, hC⟩ : ∃ C, ctk A g r = C := ⟨_, rfl⟩
        rw [hC] at HT hck ⊢
        clear hxl hM he cx hR hC hgl
        go_wp2_with (go_at_call 10; refine heq.mono ?_; rintro e w2 ⟨rfl, q, hw2⟩; have H2 := Hid.mk (show More w1 w2 by rw [hw2]; exact More.trans HR.out (More.drewN _ _)); clear hw2)
        go_roundw
        case rel => exact ⟨r + 1, by omega, by go_num, by rw [HT.out], H2.out⟩
        case measure => simp [intOf]; omega
    · obtain rfl : r = K := by omega
      have HR := Hid.mk (More.trans H1.out.2 hR)
      rw [HA.out] at *
      clear hR
      go_wp2
      go_ret
      exact ⟨rfl, HR.out⟩

/-- A list of lists as read. -/
def LR (w : World) (v : Value) (L : List (List Int)) : Prop :=
  (L = [] ∧ ∃ ao cap, v = .slice ao 0 cap) ∨ ∃ g o cap, v = .slice (some ⟨g, o, none⟩) L.length cap ∧ g < w.heap.size ∧ ∀ j, j < L.length → ∃ u, w.cell? ⟨g, o + j, none⟩ = some u ∧ IL w u (L.getD j [])
theorem LR.shape {w : World} {v : Value} {L : List (List Int)} (h : LR w v L) : ∃ ao cap, v = .slice ao L.length cap := by
  rcases h with ⟨h, ao, cap, e⟩ | ⟨g, o, cap, e, _⟩
  · exact ⟨ao, cap, by rw [h]; exact e⟩
  · exact ⟨_, _, e⟩
theorem LR.more {w w' : World} {v : Value} {L : List (List Int)} (h : LR w v L) (k : More w w') : LR w' v L := by
  rcases h with h | ⟨g, o, cap, e, hg, hc⟩
  · exact .inl h
  · refine .inr ⟨g, o, cap, e, Nat.lt_of_lt_of_le hg k.size, fun j hj => ?_⟩
    obtain ⟨u, h1, h2⟩ := hc j hj
    exact ⟨u, (k.cell hg).trans h1, h2.more k⟩
theorem LR.at {w : World} {ao : Option Addr} {n cap j : Nat} {L : List (List Int)} (h : LR w (.slice ao n cap) L) (hj : j < L.length) : ∃ g o u, ao = some ⟨g, o, none⟩ ∧ g < w.heap.size ∧ w.cell? ⟨g, o + j, none⟩ = some u ∧ IL w u (L.getD j []) := by
  rcases h with ⟨h, _⟩ | ⟨g, o, c, e, hg, hc⟩
  · rw [h] at hj; simp at hj
  · obtain ⟨u, h1, h2⟩ := hc j hj
    exact ⟨g, o, u, (Value.slice.inj e).1, hg, h1, h2⟩

set_option maxRecDepth 1000000 in
set_option maxHeartbeats 1600000 in
theorem rf_rows (va vb : Value) (L : List (List Int)) (w : World) (ha : LR w va L) (hb : LR w vb L) (hn : L.length ≤ 1000000) (hx : ∀ x ∈ L, x.length ≤ 1000000) :
    Calls Try.prog 13 #[va, vb] w fun e w' => e = .returned (.bool true) ∧ ∃ m, w' = w.drewN m := by
  have HA := Hid.mk (And.intro ha hb)
  obtain ⟨ao, ca, rfl⟩ := ha.shape
  obtain ⟨bo, cb, rfl⟩ := hb.shape
  obtain ⟨K, hK⟩ : ∃ K, L.length = K := ⟨_, rfl⟩
  have HK := Hid.mk (And.intro hK hx)
  rw [hK] at HA hn ⊢
  clear ha hb hK hx
  go_enter Try.func13, Try.ntmps13
  go_wp2
  go_loopw [5] (fun i wr => ∃ r : Nat, r ≤ K ∧ i = .int .i64 r ∧ ∃ m, wr = w.drewN m) (fun i _ => K - (intOf i).toNat)
  case atStart => exact ⟨0, by omega, rfl, 0, rfl⟩
  case round =>
    obtain ⟨r, hr, rfl, m, hwr⟩ := hrel
    by_cases hlt : r < K
    · have hlA : r < L.length := by rw [HK.out.1]; exact hlt
      obtain ⟨g1, o1, u1, rfl, _, c1, h1⟩ := HA.out.1.at hlA
      obtain ⟨g2, o2, u2, rfl, _, c2, h2⟩ := HA.out.2.at hlA
      have d1 : wr.cell? ⟨g1, o1 + r, none⟩ = some u1 := by rw [hwr]; exact c1
      have d2 : wr.cell? ⟨g2, o2 + r, none⟩ = some u2 := by rw [hwr]; exact c2
      have heq := fun q => rf_intsD u1 u2 (L.getD r []) (L.getD r []) (wr.drewN q) (by rw [hwr]; exact h1.more (More.trans (More.drewN _ _) (More.drewN _ _))) (by rw [hwr]; exact h2.more (More.trans (More.drewN _ _) (More.drewN _ _))) (HK.out.2 _ (getD_in hlA))
      rw [decide_eq_true rfl] at heq
      have HW := Hid.mk hwr
      clear hwr c1 c2 h1 h2
      go_wp2_with fail
      go_quiet ((go_at_call 10; exact Calls.quiet_of (heq _)))
      go_wp2
      go_roundw
      case rel => exact ⟨r + 1, by omega, by go_num, _, by rw [HW.out]; exact drewN_two _ _ _⟩
      case measure => simp [intOf]; omega
    · obtain rfl : r = K := by omega
      have HW := Hid.mk hwr
      clear hwr
      go_wp2
      go_ret
      exact ⟨rfl, _, HW.out⟩

set_option maxRecDepth 1000000 in
set_option maxHeartbeats 1600000 in
theorem gw_ints (n : Nat) (hn : n ≤ 1000000) (w : World) :
    Calls Try.prog 56 #[.slice none 0 0, .int .i64 n] w fun e w' => ∃ v, e = .returned v ∧ NL w' w.heap.size v [] ∧ More w w' := by
  obtain ⟨i0, hi, hz0, hz1, hz2⟩ := info_parts Try.infoInt
  by_cases h0 : n = 0
  · subst h0
    go_enter Try.func56, Try.ntmps56
    go_wp2
    go_ret
    exact ⟨_, rfl, NL.nil _ _, More.refl _⟩
  have h4 : (n : Int) > 0 := by omega
  obtain ⟨G, hG⟩ : ∃ G, G = grownCap w n 0 3 := ⟨_, rfl⟩
  obtain ⟨CS, hCS⟩ : ∃ CS, CS = Builtin.zeroCells (Value.int .i64 0).cells n ++ Builtin.zeroCells (Value.int .i64 0).cells (G - n) := ⟨_, rfl⟩
  have hrz : ∀ ty, (Builtin.append_ #[30, 3] ty #[.slice none 0 0, .int .i64 (n : Int)]).run Try.prog w = .ok (.slice (some ⟨w.heap.size, 0, none⟩) n G) (w.drew.alloc (.cells CS 3)) := fun ty => by
    have h := Lib.run_append_nil_zeros (P := Try.prog) w 30 3 ty 3 i0 (.int .i64 0) .i64 .i64 Try.underlying30 Try.underlying3 hi hz0 n (by omega) (by rw [hz1]; decide) (by omega) (by rw [hz2]; omega)
    rw [hCS, hG]
    exact h
  have hGn : n ≤ G := by rw [hG]; exact grownCap_ge w _ _ _
  have hG63 : G ≤ maxLen := by rw [hG]; exact grownCap_le_maxLen w n 0 3 (by unfold maxLen; omega)
  have hsz : CS.size = G := by rw [hCS]; simp [Builtin.zeroCells, Value.cells]; omega
  have hGi : (G : Int) ≤ 9223372036854775807 := by unfold maxLen at hG63; omega
  have HN := Hid.mk (And.intro (show NL (w.drew.alloc (.cells CS 3)) w.heap.size (.slice (some ⟨w.heap.size, 0, none⟩) 0 G) [] from ⟨rfl, .inr ⟨w.heap.size, G, CS, rfl, Nat.le_refl _, heap_alloc_new w.drew _, Nat.zero_le _, hG63, by rw [hsz, Nat.mul_one], rfl⟩⟩) (show More w (w.drew.alloc (.cells CS 3)) from More.trans (More.drewN w 1) (more_alloc _ _)))
  clear hG hCS hsz hG63
  go_enter Try.func56, Try.ntmps56
  go_wp2_with (at_builtin; refine Lib.wpList_append_run _ rfl _ _ _ _ rfl _ _ rfl rfl _ _ (hrz _) ?_)
  all_goals
    go_ret
    exact ⟨_, rfl, HN.out.1, HN.out.2⟩
end Go.Proofs.Ytiiflegfbieblaa
