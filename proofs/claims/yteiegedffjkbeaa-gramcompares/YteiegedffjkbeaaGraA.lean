/-
  gram: how two n-grams stand (slices.Compare, cmp.Compare; the document's Compare, Turned).
-/
import Derived.Test.YteiegedffjkbeaaGraIL
import Derived.Test.YteiegedffjkbeaaGraMath
namespace Go.Proofs.Yteiegedffjkbeaa
open Go.RowKit

/-- How two numbers stand. -/
def cmpI (x y : Int) : Int := if x < y then -1 else if y < x then 1 else 0
theorem cmpL_get {a b : List Int} {i : Nat} (ha : i < a.length) (hb : i < b.length) : cmpL (a.drop i) (b.drop i) = if cmpI (a.getD i 0) (b.getD i 0) = 0 then cmpL (a.drop (i + 1)) (b.drop (i + 1)) else cmpI (a.getD i 0) (b.getD i 0) := by
  rw [cmpL_drop ha hb]
  unfold cmpI
  by_cases h1 : a.getD i 0 < b.getD i 0
  · rw [if_pos h1, if_pos h1, if_neg (by decide)]
  · rw [if_neg h1, if_neg h1]
    by_cases h2 : b.getD i 0 < a.getD i 0
    · rw [if_pos h2, if_pos h2, if_neg (by decide)]
    · rw [if_neg h2, if_neg h2, if_pos rfl]
/-- The cells of a list that may be empty. -/
theorem IL.cell {w : World} {ao : Option Addr} {n cap : Nat} {l : List Int} (h : IL w (.slice ao n cap) l) {j : Nat} (hj : j < l.length) : ∃ b o, ao = some ⟨b, o, none⟩ ∧ b < w.heap.size ∧ w.cell? ⟨b, o + j, none⟩ = some (.int .i64 (l.getD j 0)) := by
  obtain ⟨b, o, c, e, hb, hc⟩ := h.form (by omega)
  exact ⟨b, o, (Value.slice.inj e).1, hb, hc j hj⟩

theorem is_nan (x : Int) (w : World) : Calls Try.prog 33 #[.int .i64 x] w fun e w' => e = .returned (.bool false) ∧ w' = w := by
  have hne : (x != x) = false := by simp
  go_enter Try.func33, Try.ntmps33
  go_wp2
  go_ret
  exact ⟨by simp, rfl⟩
theorem cmp_int (x y : Int) (w : World) : Calls Try.prog 25 #[.int .i64 x, .int .i64 y] w fun e w' => e = .returned (.int .i64 (cmpI x y)) ∧ w' = w := by
  have h1 := is_nan x
  have h2 := is_nan y
  have HC := Hid.mk (show cmpI x y = if x < y then -1 else if y < x then 1 else 0 from rfl)
  generalize cmpI x y = c at *
  by_cases hl : x < y
  · go_enter Try.func25, Try.ntmps25
    go_wp2_with (go_at_call 33; first | (refine (h1 _).mono ?_; rintro e w' ⟨rfl, hw'⟩; subst w') | (refine (h2 _).mono ?_; rintro e w' ⟨rfl, hw'⟩; subst w'))
    go_ret
    exact ⟨ret_i64 (by rw [HC.out, if_pos hl]), rfl⟩
  · by_cases hg : y < x
    · go_enter Try.func25, Try.ntmps25
      go_wp2_with (go_at_call 33; first | (refine (h1 _).mono ?_; rintro e w' ⟨rfl, hw'⟩; subst w') | (refine (h2 _).mono ?_; rintro e w' ⟨rfl, hw'⟩; subst w'))
      go_ret
      exact ⟨ret_i64 (by rw [HC.out, if_neg (by omega), if_pos hg]), rfl⟩
    · go_enter Try.func25, Try.ntmps25
      go_wp2_with (go_at_call 33; first | (refine (h1 _).mono ?_; rintro e w' ⟨rfl, hw'⟩; subst w') | (refine (h2 _).mono ?_; rintro e w' ⟨rfl, hw'⟩; subst w'))
      go_ret
      exact ⟨ret_i64 (by rw [HC.out, if_neg (by omega), if_neg (by omega)]), rfl⟩

set_option maxRecDepth 1000000 in
set_option maxHeartbeats 1600000 in
theorem sl_cmp (va vb : Value) (a b : List Int) (w : World) (ha : IL w va a) (hb : IL w vb b) (hn : a.length ≤ 1000000) (hm : b.length ≤ 1000000) :
    Calls Try.prog 24 #[va, vb] w fun e w' => e = .returned (.int .i64 (cmpL a b)) ∧ w' = w := by
  obtain ⟨ao, ca, rfl⟩ := ha.shape
  obtain ⟨bo, cb, rfl⟩ := hb.shape
  obtain ⟨n, hnn⟩ : ∃ n, a.length = n := ⟨_, rfl⟩
  obtain ⟨m, hmm⟩ : ∃ m, b.length = m := ⟨_, rfl⟩
  have HA := Hid.mk (And.intro (fun j (hj : j < n) => ha.cell (j := j) (by omega)) (fun j (hj : j < m) => hb.cell (j := j) (by omega)))
  have HS := Hid.mk (And.intro (fun r (h1 : r < n) (h2 : r < m) => cmpL_get (a := a) (b := b) (i := r) (by omega) (by omega)) (fun r (h : r = n ∨ r = m) (h1 : r ≤ n) (h2 : r ≤ m) => cmpL_end (a := a) (b := b) (i := r) (by omega) (by omega) (by omega)))
  have H0 := Hid.mk (show cmpL (a.drop 0) (b.drop 0) = cmpL a b from rfl)
  rw [hnn, hmm] at HS ⊢
  rw [hnn] at hn
  rw [hmm] at hm
  obtain ⟨C, hC⟩ : ∃ C, cmpL a b = C := ⟨_, rfl⟩
  obtain ⟨F, hF⟩ : ∃ F : Nat → Int, (fun r => cmpL (a.drop r) (b.drop r)) = F := ⟨_, rfl⟩
  have HF := Hid.mk (fun r => (show cmpL (a.drop r) (b.drop r) = F r by rw [← hF]))
  rw [hC] at H0 ⊢
  clear ha hb hnn hmm hC hF
  go_enter Try.func24, Try.ntmps24
  go_wp2
  go_loopw [11] (fun k wr => ∃ r : Nat, r ≤ n ∧ r ≤ m ∧ k = .int .i64 r ∧ F r = C ∧ wr = w) (fun k _ => n - (intOf k).toNat)
  case atStart => exact ⟨0, by omega, by omega, rfl, by rw [← HF.out]; exact H0.out, rfl⟩
  case round =>
    obtain ⟨r, hr, hrm, rfl, hFC, rfl⟩ := hrel
    have HR := Hid.mk hFC
    clear hFC
    by_cases hlt : r < n
    · by_cases hlm : r < m
      · obtain ⟨g1, o1, rfl, _, c1⟩ := HA.out.1 r hlt
        obtain ⟨g2, o2, rfl, _, c2⟩ := HA.out.2 r hlm
        have HX := Hid.mk (HS.out.1 r hlt hlm)
        rw [HF.out, HF.out] at HX
        obtain ⟨x, hx⟩ : ∃ x, a.getD r 0 = x := ⟨_, rfl⟩
        obtain ⟨y, hy⟩ : ∃ y, b.getD r 0 = y := ⟨_, rfl⟩
        rw [hx, hy] at HX
        rw [hx] at c1
        rw [hy] at c2
        have hcm := cmp_int x y wr
        obtain ⟨c, hc⟩ : ∃ c, cmpI x y = c := ⟨_, rfl⟩
        rw [hc] at HX hcm
        clear hx hy hc
        by_cases hz : c = 0
        · subst hz
          go_wp2_with (go_at_call 25; refine hcm.mono ?_; rintro e w' ⟨rfl, hw'⟩; subst w')
          go_roundw
          case rel => exact ⟨r + 1, by omega, by omega, by go_num, by rw [← HR.out, HX.out]; simp, by trivial⟩
          case measure => simp [intOf]; omega
        · have hne : (c != 0) = true := by simpa using hz
          go_wp2_with (go_at_call 25; refine hcm.mono ?_; rintro e w' ⟨rfl, hw'⟩; subst w')
          go_ret
          exact ⟨ret_i64 (by rw [← HR.out, HX.out, if_neg hz]), rfl⟩
      · obtain rfl : r = m := by omega
        obtain ⟨g1, o1, rfl, _, c1⟩ := HA.out.1 r hlt
        have hle : ((r : Nat) : Int) ≤ (r : Int) := Int.le_refl _
        go_wp2
        go_ret
        have := HS.out.2 r (.inr rfl) (by omega) (by omega)
        rw [if_neg (by omega), if_pos (by omega), HF.out] at this
        exact ⟨ret_i64 (by rw [← HR.out, this]), rfl⟩
    · obtain rfl : r = n := by omega
      have := HS.out.2 r (.inl rfl) (by omega) (by omega)
      rw [HF.out, HR.out] at this
      have HT := Hid.mk this
      clear this
      by_cases hrr : r < m
      · go_wp2
        go_ret
        exact ⟨ret_i64 (by rw [HT.out, if_pos hrr]), rfl⟩
      · go_wp2
        go_ret
        exact ⟨ret_i64 (by rw [HT.out, if_neg hrr, if_neg (by omega)]), rfl⟩
theorem gr_cmp (va vb : Value) (a b : List Int) (w : World) (ha : IL w va a) (hb : IL w vb b) (hn : a.length ≤ 1000000) (hm : b.length ≤ 1000000) :
    Calls Try.prog 8 #[va, vb] w fun e w' => e = .returned (.int .i64 (cmpL a b)) ∧ w' = w := by
  have hs := sl_cmp va vb a b w ha hb hn hm
  obtain ⟨ao, ca, rfl⟩ := ha.shape
  obtain ⟨bo, cb, rfl⟩ := hb.shape
  generalize cmpL a b = c at *
  clear ha hb
  generalize a.length = n at *
  generalize b.length = m at *
  go_enter Try.func8, Try.ntmps8
  go_wp2_with (go_at_call 24; refine hs.mono ?_; rintro e w' ⟨rfl, hw'⟩; subst w')
  go_ret
  exact ⟨rfl, rfl⟩

set_option maxRecDepth 1000000 in
set_option maxHeartbeats 3200000 in
theorem rf_cmp (va vb : Value) (a b : List Int) (w : World) (ha : IL w va a) (hb : IL w vb b) (hn : a.length ≤ 1000000) (hm : b.length ≤ 1000000) :
    Calls Try.prog 9 #[va, vb] w fun e w' => e = .returned (.int .i64 (cmpL a b)) ∧ ∃ q, w' = w.drewN q := by
  obtain ⟨ao, ca, rfl⟩ := ha.shape
  obtain ⟨bo, cb, rfl⟩ := hb.shape
  obtain ⟨n, hnn⟩ : ∃ n, a.length = n := ⟨_, rfl⟩
  obtain ⟨m, hmm⟩ : ∃ m, b.length = m := ⟨_, rfl⟩
  have HA := Hid.mk (And.intro (fun j (hj : j < n) => ha.cell (j := j) (by omega)) (fun j (hj : j < m) => hb.cell (j := j) (by omega)))
  have HS := Hid.mk (And.intro (fun r (h1 : r < n) (h2 : r < m) => cmpL_drop (a := a) (b := b) (i := r) (by omega) (by omega)) (fun r (h : r = n ∨ r = m) (h1 : r ≤ n) (h2 : r ≤ m) => cmpL_end (a := a) (b := b) (i := r) (by omega) (by omega) (by omega)))
  have H0 := Hid.mk (show cmpL (a.drop 0) (b.drop 0) = cmpL a b from rfl)
  rw [hnn, hmm] at HS ⊢
  rw [hnn] at hn
  rw [hmm] at hm
  obtain ⟨C, hC⟩ : ∃ C, cmpL a b = C := ⟨_, rfl⟩
  obtain ⟨F, hF⟩ : ∃ F : Nat → Int, (fun r => cmpL (a.drop r) (b.drop r)) = F := ⟨_, rfl⟩
  have HF := Hid.mk (fun r => (show cmpL (a.drop r) (b.drop r) = F r by rw [← hF]))
  rw [hC] at H0 ⊢
  clear ha hb hnn hmm hC hF
  go_enter Try.func9, Try.ntmps9
  go_wp2
  go_loopw [5] (fun k wr => ∃ r : Nat, r ≤ n ∧ r ≤ m ∧ k = .int .i64 r ∧ F r = C ∧ ∃ q, wr = w.drewN q) (fun k _ => n - (intOf k).toNat)
  case atStart => exact ⟨0, by omega, by omega, rfl, by rw [← HF.out]; exact H0.out, 0, rfl⟩
  case round =>
    obtain ⟨r, hr, hrm, rfl, hFC, q, hwr⟩ := hrel
    have HR := Hid.mk hFC
    clear hFC
    by_cases hlt : r < n
    · by_cases hlm : r < m
      · obtain ⟨g1, o1, rfl, _, c1⟩ := HA.out.1 r hlt
        obtain ⟨g2, o2, rfl, _, c2⟩ := HA.out.2 r hlm
        have c1 : wr.cell? ⟨g1, o1 + r, none⟩ = some (.int .i64 (a.getD r 0)) := by rw [hwr]; exact c1
        have c2 : wr.cell? ⟨g2, o2 + r, none⟩ = some (.int .i64 (b.getD r 0)) := by rw [hwr]; exact c2
        have HW := Hid.mk hwr
        clear hwr
        have HX := Hid.mk (HS.out.1 r hlt hlm)
        rw [HF.out, HF.out] at HX
        obtain ⟨x, hx⟩ : ∃ x, a.getD r 0 = x := ⟨_, rfl⟩
        obtain ⟨y, hy⟩ : ∃ y, b.getD r 0 = y := ⟨_, rfl⟩
        rw [hx, hy] at HX
        rw [hx] at c1
        rw [hy] at c2
        clear hx hy
        by_cases h1 : x < y
        · go_wp2_with fail
          go_quiet (fail)
          go_wp2
          go_ret
          exact ⟨ret_i64 (by rw [← HR.out, HX.out, if_pos h1]), _, by rw [HW.out]; exact drewN_two _ _ _⟩
        · by_cases h2 : y < x
          · go_wp2_with fail
            go_quiet (fail)
            go_wp2_with fail
            go_quiet (fail)
            go_wp2
            go_ret
            exact ⟨ret_i64 (by rw [← HR.out, HX.out, if_neg (by omega), if_pos h2]), _, by rw [HW.out, drewN_two]; exact drewN_two _ _ _⟩
          · go_wp2_with fail
            go_quiet (fail)
            go_wp2_with fail
            go_quiet (fail)
            go_wp2
            go_roundw
            case rel => exact ⟨r + 1, by omega, by omega, by go_num, by rw [← HR.out, HX.out, if_neg (by omega), if_neg (by omega)], _, by rw [HW.out, drewN_two]⟩
            case measure => simp [intOf]; omega
      · obtain rfl : r = m := by omega
        have HW := Hid.mk hwr
        have := HS.out.2 r (.inr rfl) (by omega) (by omega)
        rw [if_neg (by omega), if_pos (by omega), HF.out] at this
        have HT := Hid.mk this
        clear this hwr
        go_wp2
        go_ret
        exact ⟨ret_i64 (by rw [← HR.out, HT.out]), _, HW.out⟩
    · obtain rfl : r = n := by omega
      have HW := Hid.mk hwr
      have := HS.out.2 r (.inl rfl) (by omega) (by omega)
      rw [HF.out, HR.out] at this
      have HT := Hid.mk this
      clear this hwr
      by_cases hrr : r < m
      · go_wp2
        go_ret
        exact ⟨ret_i64 (by rw [HT.out, if_pos hrr]), _, HW.out⟩
      · go_wp2
        go_ret
        exact ⟨ret_i64 (by rw [HT.out, if_neg hrr, if_neg (by omega)]), _, HW.out⟩
end Go.Proofs.Yteiegedffjkbeaa
