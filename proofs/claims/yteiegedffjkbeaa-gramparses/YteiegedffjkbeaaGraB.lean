/-
  gram: how two n-grams stand by their ends (Behind; the document's Turned).
-/
import Derived.Test.YteiegedffjkbeaaGraA
import Derived.Maps.AppendAt
namespace Go.Proofs.Yteiegedffjkbeaa
open Go.RowKit

theorem rev_len (a : List Int) : a.reverse.length = a.length := by simp
set_option maxRecDepth 1000000 in
set_option maxHeartbeats 3200000 in
theorem gr_behind (va vb : Value) (a b : List Int) (w : World) (ha : IL w va a) (hb : IL w vb b) (hn : a.length ≤ 1000000) (hm : b.length ≤ 1000000) :
    Calls Try.prog 10 #[va, vb] w fun e w' => e = .returned (.int .i64 (cmpL a.reverse b.reverse)) ∧ ∃ q, w' = w.drewN q := by
  obtain ⟨ao, ca, rfl⟩ := ha.shape
  obtain ⟨bo, cb, rfl⟩ := hb.shape
  obtain ⟨n, hnn⟩ : ∃ n, a.length = n := ⟨_, rfl⟩
  obtain ⟨m, hmm⟩ : ∃ m, b.length = m := ⟨_, rfl⟩
  have HA := Hid.mk (And.intro (fun j (hj : j < n) => by have h := ha.cell (j := n - 1 - j) (by omega); rw [show a.getD (n - 1 - j) 0 = a.reverse.getD j 0 by rw [rev_get a (by omega), hnn]] at h; exact h) (fun j (hj : j < m) => by have h := hb.cell (j := m - 1 - j) (by omega); rw [show b.getD (m - 1 - j) 0 = b.reverse.getD j 0 by rw [rev_get b (by omega), hmm]] at h; exact h))
  have la := rev_len a
  have lb := rev_len b
  rw [hnn] at la
  rw [hmm] at lb
  rw [hnn, hmm]
  rw [hnn] at hn
  rw [hmm] at hm
  obtain ⟨a', ha'⟩ : ∃ a', a.reverse = a' := ⟨_, rfl⟩
  obtain ⟨b', hb'⟩ : ∃ b', b.reverse = b' := ⟨_, rfl⟩
  rw [ha', hb'] at HA ⊢
  rw [ha'] at la
  rw [hb'] at lb
  have HS := Hid.mk (And.intro (fun r (h1 : r < n) (h2 : r < m) => cmpL_get (a := a') (b := b') (i := r) (by omega) (by omega)) (fun r (h : r = n ∨ r = m) (h1 : r ≤ n) (h2 : r ≤ m) => cmpL_end (a := a') (b := b') (i := r) (by omega) (by omega) (by omega)))
  have H0 := Hid.mk (show cmpL (a'.drop 0) (b'.drop 0) = cmpL a' b' from rfl)
  rw [la, lb] at HS
  obtain ⟨C, hC⟩ : ∃ C, cmpL a' b' = C := ⟨_, rfl⟩
  obtain ⟨F, hF⟩ : ∃ F : Nat → Int, (fun r => cmpL (a'.drop r) (b'.drop r)) = F := ⟨_, rfl⟩
  have HF := Hid.mk (fun r => (show cmpL (a'.drop r) (b'.drop r) = F r by rw [← hF]))
  rw [hC] at H0 ⊢
  have hcm := cmp_int (n : Int) (m : Int)
  obtain ⟨c0, hc0⟩ : ∃ c0, cmpI (n : Int) (m : Int) = c0 := ⟨_, rfl⟩
  rw [hc0] at hcm
  have HC0 := Hid.mk hc0
  obtain ⟨M, hM⟩ : ∃ M : Nat, min (n : Int) (m : Int) = M := ⟨min n m, by omega⟩
  have hMn : M ≤ n := by omega
  have hMm : M ≤ m := by omega
  have hMe : M = n ∨ M = m := by omega
  clear ha hb hnn hmm hC hF ha' hb' la lb hc0
  go_enter Try.func10, Try.ntmps10
  go_wp2
  go_loopw [12] (fun k wr => ∃ r : Nat, r ≤ M ∧ k = .int .i64 r ∧ F r = C ∧ ∃ q, wr = w.drewN q) (fun k _ => n - (intOf k).toNat)
  case atStart => exact ⟨0, by omega, rfl, by rw [← HF.out]; exact H0.out, 0, rfl⟩
  case round =>
    obtain ⟨r, hr, rfl, hFC, q, hwr⟩ := hrel
    have HR := Hid.mk hFC
    clear hFC
    by_cases hlt : r < M
    · obtain ⟨p1, hp1⟩ : ∃ p : Nat, (n : Int) - 1 - (r : Int) = p := ⟨n - 1 - r, by omega⟩
      obtain ⟨p2, hp2⟩ : ∃ p : Nat, (m : Int) - 1 - (r : Int) = p := ⟨m - 1 - r, by omega⟩
      obtain ⟨g1, o1, rfl, _, c1⟩ := HA.out.1 r (by omega)
      obtain ⟨g2, o2, rfl, _, c2⟩ := HA.out.2 r (by omega)
      rw [show n - 1 - r = p1 by omega] at c1
      rw [show m - 1 - r = p2 by omega] at c2
      have c1 : wr.cell? ⟨g1, o1 + p1, none⟩ = some (.int .i64 (a'.getD r 0)) := by rw [hwr]; exact c1
      have c2 : wr.cell? ⟨g2, o2 + p2, none⟩ = some (.int .i64 (b'.getD r 0)) := by rw [hwr]; exact c2
      have HW := Hid.mk hwr
      clear hwr
      have HX := Hid.mk (HS.out.1 r (by omega) (by omega))
      rw [HF.out, HF.out] at HX
      obtain ⟨x, hx⟩ : ∃ x, a'.getD r 0 = x := ⟨_, rfl⟩
      obtain ⟨y, hy⟩ : ∃ y, b'.getD r 0 = y := ⟨_, rfl⟩
      rw [hx, hy] at HX
      rw [hx] at c1
      rw [hy] at c2
      have hcx := cmp_int x y
      obtain ⟨c, hc⟩ : ∃ c, cmpI x y = c := ⟨_, rfl⟩
      rw [hc] at HX hcx
      have hi1 : p1 < n := by omega
      have hi2 : p2 < m := by omega
      have w1 : IntKind.i64.wrap ((n : Int) - 1) = (n : Int) - 1 := by rw [wrap_i64]; omega
      have w2 : IntKind.i64.wrap ((m : Int) - 1) = (m : Int) - 1 := by rw [wrap_i64]; omega
      have w3 : IntKind.i64.wrap (p1 : Int) = p1 := by rw [wrap_i64]; omega
      have w4 : IntKind.i64.wrap (p2 : Int) = p2 := by rw [wrap_i64]; omega
      clear hx hy hc hcm
      by_cases hz : c = 0
      · subst hz
        go_wp2_with fail
        go_quiet ((go_at_call 25; exact Calls.quiet_of_same (hcx _)))
        go_wp2
        go_roundw
        case rel => exact ⟨r + 1, by omega, by go_num, by rw [← HR.out, HX.out]; simp, _, by rw [HW.out]; exact drewN_two _ _ _⟩
        case measure => simp [intOf]; omega
      · have hne : (c != 0) = true := by simpa using hz
        go_wp2_with fail
        go_quiet ((go_at_call 25; exact Calls.quiet_of_same (hcx _)))
        go_wp2
        go_ret
        exact ⟨ret_i64 (by rw [← HR.out, HX.out, if_neg hz]), _, by rw [HW.out]; exact drewN_two _ _ _⟩
    · obtain rfl : r = M := by omega
      have HW := Hid.mk hwr
      have HT := Hid.mk (HS.out.2 r (by omega) (by omega) (by omega))
      rw [HF.out, HR.out] at HT
      clear hwr
      go_wp2_with (go_at_call 25; refine (hcm _).mono ?_; rintro e w' ⟨rfl, hw'⟩; subst w')
      go_ret
      refine ⟨ret_i64 ?_, _, HW.out⟩
      rw [HT.out, ← HC0.out]
      unfold cmpI
      by_cases e1 : n < m
      · rw [if_pos e1, if_pos (by omega)]
      · rw [if_neg e1, if_neg (by omega)]
        by_cases e2 : m < n
        · rw [if_pos e2, if_pos (by omega)]
        · rw [if_neg e2, if_neg (by omega)]

set_option maxRecDepth 1000000 in
set_option maxHeartbeats 3200000 in
theorem rf_turned (va : Value) (a : List Int) (w : World) (ha : IL w va a) (hn : a.length ≤ 1000000) :
    Calls Try.prog 11 #[va] w fun e w' => ∃ r, e = .returned r ∧ NL w' w.heap.size r a.reverse ∧ More w w' := by
  obtain ⟨i0, hi, hz0, hz1, hz2⟩ := info_parts Try.infoInt
  obtain ⟨ao, ca, rfl⟩ := ha.shape
  obtain ⟨n, hnn⟩ : ∃ n, a.length = n := ⟨_, rfl⟩
  have la := rev_len a
  rw [hnn] at la
  have HA := Hid.mk (fun j (hj : j < n) => by have h := ha.cell (j := n - 1 - j) (by omega); rw [show a.getD (n - 1 - j) 0 = a.reverse.getD j 0 by rw [rev_get a (by omega), hnn]] at h; exact h)
  rw [hnn] at hn ⊢
  generalize a.reverse = l at *
  have HL := Hid.mk (And.intro (show l.take n = l by rw [← la, List.take_length]) (fun r (h : r < n) => And.intro (show l.take (r + 1) = l.take r ++ [l.getD r 0] by rw [List.take_succ_eq_append_getElem (by omega)]; simp [List.getD, la, h]) (show (l.take r).length = r by rw [List.length_take]; omega)))
  obtain ⟨z, hz⟩ : ∃ z : Int, (n : Int) - 1 = z := ⟨_, rfl⟩
  have hzw : IntKind.i64.wrap z = z := by rw [wrap_i64]; omega
  clear ha hnn
  go_enter Try.func11, Try.ntmps11
  go_wp2
  go_loopw [3, 4] (fun x k wr => ∃ r : Nat, r ≤ n ∧ (k = .int .i64 (z - r) ∧ NL wr w.heap.size x (l.take r) ∧ More w wr)) (fun _ k _ => (intOf k + 1).toNat)
  case atStart => exact ⟨0, by omega, by simp, NL.nil _ _, More.refl w⟩
  case round =>
    obtain ⟨r, hr, rfl, hN, hM⟩ := hrel
    by_cases hlt : r < n
    · obtain ⟨p, hp⟩ : ∃ p : Nat, z - (r : Int) = p := ⟨n - 1 - r, by omega⟩
      obtain ⟨b, o, rfl, hb, c1⟩ := HA.out r hlt
      have c1 := (hM.cell (p := ⟨b, o + (n - 1 - r), none⟩) hb).trans c1
      rw [show n - 1 - r = p by omega] at c1
      rw [hp]
      have hpn : p < n := by omega
      obtain ⟨hx, hln⟩ := HL.out.2 r hlt
      obtain ⟨x, hxe⟩ : ∃ x, l.getD r 0 = x := ⟨_, rfl⟩
      rw [hxe] at c1 hx
      obtain ⟨G, hG⟩ : ∃ G, l.take r = G := ⟨_, rfl⟩
      rw [hG] at hN hx hln
      obtain ⟨xo, xc, rfl⟩ := hN.shape
      have hgl : G.length ≤ 1000000 := by omega
      have HX := Hid.mk (And.intro hx (And.intro hN hM))
      have HP := Hid.mk hp
      clear hN hM hx hG hxe hln hb hp
      go_wp2_with (at_builtin; refine wpList_append_own_at _ rfl (.tmp 12) (.tmp 17) 22 rfl w.heap.size 3 i0 (.int .i64 0) 1 8 Try.underlying22 hi hz0 hz1 hz2 rfl (by decide) _ _ _ rfl (HX.out.2.1.more (more_alloc wr (.cells #[.int .i64 x] 3))) ⟨wr.heap.size, 0, none⟩ 1 1 [.int .i64 x] rfl rfl (one_cell _ _ _) (one_num _) ?c3 ?c4 ?c5 ?_)
      case c3 => unfold maxLen; omega
      case c4 => omega
      case c5 => have := HX.out.2.2.size; simp; omega
      intro v' w4 hown4 hgrow _ _
      have HN := Hid.mk (And.intro (show NL w4 w.heap.size v' (l.take (r + 1)) by rw [HX.out.1]; unfold NL; rw [zs_snoc, List.length_append]; exact hown4) ((More.trans HX.out.2.2 (more_alloc wr _)).grown hgrow (by have := HX.out.2.2.size; simp; omega) (fun k hk => (World.ownsRow.lt HX.out.2.1 k hk).1)))
      obtain ⟨ao4, cap4, rfl⟩ := wshape_of hown4
      clear hown4 hgrow
      have w3 : IntKind.i64.wrap ((p : Int) - 1) = (p : Int) - 1 := by rw [wrap_i64]; omega
      go_wp2
      go_roundw
      case rel => exact ⟨r + 1, by omega, by have := HP.out; go_num, HN.out.1, HN.out.2⟩
      case measure => simp [intOf]
    · obtain rfl : r = n := by omega
      have HX := Hid.mk (And.intro hN hM)
      rw [HL.out.1] at HX
      have hneg : ¬ (0 : Int) ≤ z - (r : Int) := by omega
      clear hN hM
      go_wp2
      go_ret
      exact ⟨_, rfl, HX.out.1, HX.out.2⟩
end Go.Proofs.Yteiegedffjkbeaa
