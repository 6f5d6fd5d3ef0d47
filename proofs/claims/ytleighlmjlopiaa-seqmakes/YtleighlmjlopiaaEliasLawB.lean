/-
  SeqFinds and SeqSize walked.
-/
import Derived.Test.YtleighlmjlopiaaEliasLawA
namespace Go.Proofs.Ytleighlmjlopiaa
open Go.RowKit

theorem finds_big (v : Value) (K : Nat) (g : Nat → Int) (x y z : Int) (w : World) (h : ZRd w v K g) (hK : K ≤ 9223372036854775807) (hb : 80 < K) :
    Calls Try.prog 5 #[v, .agg #[.int .i64 x, .int .i64 y], .int .i64 z] w fun e w' => e = .returned (.bool true) ∧ Below w.heap.size w w' := by
  obtain ⟨ao, cap, rfl⟩ := h.shape
  clear h
  go_enter Try.func5, Try.ntmps5
  go_wp2_with (go_at_call 7; refine (el_live _).mono ?_; rintro e w1 ⟨rfl, hm⟩; have H1 := Hid.mk hm; clear hm)
  go_ret
  exact ⟨rfl, More.trans (more_alloc _ _) H1.out⟩
theorem finds_bad (v : Value) (K : Nat) (g : Nat → Int) (x y z : Int) (w : World) (h : ZRd w v K g) (hb : K ≤ 80) (h0 : wrg g K ≠ 0) :
    Calls Try.prog 5 #[v, .agg #[.int .i64 x, .int .i64 y], .int .i64 z] w fun e w' => e = .returned (.bool true) ∧ Below w.heap.size w w' := by
  have hw := ref_wrong v K g _ (h.more (more_alloc w (.cells #[.int .i64 x, .int .i64 y] 35))) (by omega)
  obtain ⟨ao, cap, rfl⟩ := h.shape
  generalize wrg g K = E at *
  have hE : (E != 0) = true := by simpa using h0
  clear h
  go_enter Try.func5, Try.ntmps5
  go_wp2_with (first
    | (go_at_call 9; refine hw.mono ?_; rintro e w1 ⟨rfl, m, hm⟩; subst w1)
    | (go_at_call 7; refine (el_live _).mono ?_; rintro e w2 ⟨rfl, hm⟩; have H2 := Hid.mk hm; clear hm))
  go_ret
  exact ⟨rfl, More.trans (more_alloc _ _) (More.trans (More.drewN _ _) H2.out)⟩

set_option maxHeartbeats 1600000 in
set_option maxRecDepth 1000000 in
theorem finds_good (v : Value) (K : Nat) (f : Nat → Nat) (x y z : Int) (w : World) (h : ZRd w v K (fun j => (f j : Int))) (hC : Climbs f K) (hb : K ≤ 80) (h0 : wrg (fun j => (f j : Int)) K = 0) :
    Calls Try.prog 5 #[v, .agg #[.int .i64 x, .int .i64 y], .int .i64 z] w fun e w' => e = .returned (.bool true) ∧ Below w.heap.size w w' := by
  obtain ⟨w0, hw0⟩ : ∃ w0, w.alloc (.cells #[.int .i64 x, .int .i64 y] 35) = w0 := ⟨_, rfl⟩
  have hm0 : More w w0 := by rw [← hw0]; exact more_alloc _ _
  have c0 : w0.cell? ⟨w.heap.size, 0, none⟩ = some (.int .i64 x) := by rw [← hw0]; simp
  have c1 : w0.cell? ⟨w.heap.size, 1, none⟩ = some (.int .i64 y) := by rw [← hw0]; simp
  have hw := ref_wrong v K _ w0 (h.more hm0) (by omega)
  rw [h0] at hw
  have hnew := fun w1 (hm : More w w1) => el_new v K f w1 (h.more hm) hC (by omega)
  have hf : ∀ s base w1, SeqAt w1 base s f K → _ := fun s base w1 hs => el_find base s x y z f K w1 hs
  have rf := fun w1 (hm : More w w1) => ref_find v K f x y z w1 (h.more hm) hC (by omega)
  obtain ⟨ao, cap, rfl⟩ := h.shape
  generalize findZ f K x y z = R at *
  have HH := Hid.mk (And.intro hm0 (And.intro c0 c1))
  clear h hC h0 hm0 c0 c1
  go_enter Try.func5, Try.ntmps5
  go_wp2_with (first
    | (go_at_call 9; refine hw.mono ?_; rintro e w1 ⟨rfl, m, hm⟩; subst w1; clear hw)
    | (go_at_call 8; refine (hnew _ (More.trans HH.out.1 (More.drewN _ _))).mono ?_; rintro e w2 ⟨s, rfl, hs, hm⟩; have H2 := Hid.mk (And.intro hs (More.trans (More.drewN w0 m) hm)); clear hs hm hnew))
  have hb0 := World.block_lt_of_cell? w0 _ HH.out.2.1
  have l0 : ∀ u : Lat w2, u.val.cell? ⟨w.heap.size, 0, none⟩ = some (.int .i64 x) := fun u => ((More.trans H2.out.2 u.more).cell (p := ⟨w.heap.size, 0, none⟩) hb0).trans HH.out.2.1
  have l1 : ∀ u : Lat w2, u.val.cell? ⟨w.heap.size, 1, none⟩ = some (.int .i64 y) := fun u => ((More.trans H2.out.2 u.more).cell (p := ⟨w.heap.size, 1, none⟩) hb0).trans HH.out.2.2
  have k1 : ∀ u : Lat w2, Calls Try.prog 18 #[.pointer (some ⟨s, 0, none⟩), .int .i64 x, .int .i64 y, .int .i64 z] u.val fun e w' => e = .returned (.int .i64 R) ∧ ∃ u' : Lat w2, w' = u'.val := fun u =>
    (hf s _ _ (H2.out.1.more u.more)).mono fun e w' ⟨he, hk⟩ => ⟨he, u.grown hk⟩
  have k2 : ∀ u : Lat w2, Calls Try.prog 19 #[.slice ao K cap, .int .i64 x, .int .i64 y, .int .i64 z] u.val fun e w' => e = .returned (.int .i64 R) ∧ ∃ u' : Lat w2, w' = u'.val := fun u =>
    (rf _ (More.trans HH.out.1 (More.trans H2.out.2 u.more))).mono fun e w' ⟨he, hk⟩ => ⟨he, ⟨u, hk⟩⟩
  have k3 : ∀ u : Lat w2, Calls Try.prog 18 #[.pointer none, .int .i64 x, .int .i64 y, .int .i64 z] u.val fun e w' => e = .returned (.int .i64 (-1)) ∧ ∃ u' : Lat w2, w' = u'.val := fun u =>
    (eln_find x y z _).mono fun e w' ⟨he, hk⟩ => ⟨he, ⟨u, hk⟩⟩
  have k4 : ∀ u : Lat w2, Calls Try.prog 7 #[] u.val fun e w' => e = .returned (.bool true) ∧ ∃ u' : Lat w2, w' = u'.val := fun u =>
    (el_live _).mono fun e w' ⟨he, hk⟩ => ⟨he, u.grown hk⟩
  have hne : Nonempty (Lat w2) := Lat.any w2
  have HW := Hid.mk (More.trans HH.out.1 H2.out.2)
  clear hb0 H2 HH hf rf
  refine wp_region_lat (by kernel_rfl) (by kernel_rfl) ?_
  repeat (quiet_step (first
    | (go_at_call 19; exact k2 _)
    | (go_at_call 7; exact k4 _)
    | (go_at_call_of 18 (Value.pointer none); exact k3 _)
    | (go_at_call 18; exact k1 _)))
  refine wpQuiet_nil ?_
  rintro _ ⟨u, rfl⟩
  go_wp2
  go_ret
  exact ⟨rfl, More.trans HW.out u.more⟩

theorem seqFinds (v : Value) (K : Nat) (g : Nat → Int) (x y z : Int) (w : World) (h : ZRd w v K g) (hK : K ≤ 9223372036854775807) :
    Calls Try.prog 5 #[v, .agg #[.int .i64 x, .int .i64 y], .int .i64 z] w fun e w' => e = .returned (.bool true) ∧ Below w.heap.size w w' := by
  by_cases hb : 80 < K
  · exact finds_big v K g x y z w h hK hb
  by_cases h0 : wrg g K = 0
  · exact finds_good v K _ x y z w (tell h h0) (wrg_climbs g K h0).2 (by omega) (wrg_tell g K h0)
  · exact finds_bad v K g x y z w h (by omega) h0

theorem size_big (v : Value) (K : Nat) (g : Nat → Int) (x y : Int) (w : World) (h : ZRd w v K g) (hK : K ≤ 9223372036854775807) (hb : 200 < K) :
    Calls Try.prog 6 #[v, .int .i64 x, .int .i64 y] w fun e w' => e = .returned (.bool true) ∧ Below w.heap.size w w' := by
  obtain ⟨ao, cap, rfl⟩ := h.shape
  clear h
  go_enter Try.func6, Try.ntmps6
  go_wp2_with (go_at_call 7; refine (el_live _).mono ?_; rintro e w1 ⟨rfl, hm⟩; have H1 := Hid.mk hm; clear hm)
  go_ret
  exact ⟨rfl, H1.out⟩
theorem size_bad (v : Value) (K : Nat) (g : Nat → Int) (x y : Int) (w : World) (h : ZRd w v K g) (hb : K ≤ 200) (h0 : wrg g K ≠ 0) :
    Calls Try.prog 6 #[v, .int .i64 x, .int .i64 y] w fun e w' => e = .returned (.bool true) ∧ Below w.heap.size w w' := by
  have hw := ref_wrong v K g w h (by omega)
  obtain ⟨ao, cap, rfl⟩ := h.shape
  generalize wrg g K = E at *
  have hE : (E != 0) = true := by simpa using h0
  clear h
  go_enter Try.func6, Try.ntmps6
  go_wp2_with (first
    | (go_at_call 9; refine hw.mono ?_; rintro e w1 ⟨rfl, m, hm⟩; subst w1)
    | (go_at_call 7; refine (el_live _).mono ?_; rintro e w2 ⟨rfl, hm⟩; have H2 := Hid.mk hm; clear hm))
  go_ret
  exact ⟨rfl, More.trans (More.drewN _ _) H2.out⟩

/-- P7.4. -/
theorem size_bound {f : Nat → Nat} {n : Nat} (h : Climbs f n) (hn : 0 < n) : sizeN f (wdt f n) n < n * (wdt f n + 3) := by
  cases n with
  | zero => omega
  | succ k =>
    have h1 := low_half (k + 1) (f k) (by omega) (by have := h.top k (Nat.lt_succ_self k); omega)
    rw [show lowN (k + 1) (f k) = wdt f (k + 1) from rfl] at h1
    unfold sizeN
    rw [hN, Nat.mul_add]
    unfold hp
    omega

set_option maxHeartbeats 1600000 in
set_option maxRecDepth 1000000 in
theorem size_good (v : Value) (K : Nat) (f : Nat → Nat) (x y : Int) (w : World) (h : ZRd w v K (fun j => (f j : Int))) (hC : Climbs f K) (hb : K ≤ 200) (h0 : wrg (fun j => (f j : Int)) K = 0) (hx : x ≤ 9223372036854775807) (hy : y ≤ 9223372036854775807) :
    Calls Try.prog 6 #[v, .int .i64 x, .int .i64 y] w fun e w' => e = .returned (.bool true) ∧ Below w.heap.size w w' := by
  have hw := ref_wrong v K _ w h (by omega)
  rw [h0] at hw
  have hnew := fun w1 (hm : More w w1) => el_new v K f w1 (h.more hm) hC (by omega)
  have hs : ∀ s base w1, SeqAt w1 base s f K → _ := fun s base w1 hs => el_size base s f K w1 hs
  have rz := fun w1 (hm : More w w1) => ref_size v K f w1 (h.more hm) hC (by omega)
  have hl := fun w => el_low x y hy w
  have rl := fun w => ref_low x y hx hy w
  have hd := wdt_le hC
  generalize lowZ x y = L at *
  cases K with
  | zero =>
    obtain ⟨ao, cap, rfl⟩ := h.shape
    generalize sizeN f (wdt f 0) 0 = S at *
    clear h hC h0
    go_enter Try.func6, Try.ntmps6
    go_wp2_with (first
      | (go_at_call 9; refine hw.mono ?_; rintro e w1 ⟨rfl, m, hm⟩; subst w1; clear hw)
      | (go_at_call 8; refine (hnew _ (More.drewN _ _)).mono ?_; rintro e w2 ⟨s, rfl, hs, hm⟩; have H2 := Hid.mk (And.intro hs (More.trans (More.drewN _ _) hm)); clear hs hm hnew)
      | (go_at_call_of 20 (Value.pointer none); refine (eln_size _).mono ?_; rintro e w' ⟨rfl, hw'⟩; subst w')
      | (go_at_call 20; refine (hs s _ w2 H2.out.1).mono ?_; rintro e w3 ⟨rfl, hm⟩; have H3 := Hid.mk (More.trans H2.out.2 hm); clear hm hs)
      | (go_at_call 21; refine (rz _ H3.out).mono ?_; rintro e w' ⟨rfl, hw'⟩; subst w'; clear rz)
      | (go_at_call 22; refine (hl _).mono ?_; rintro e w' ⟨rfl, hw'⟩; subst w'; clear hl)
      | (go_at_call 23; refine (rl _).mono ?_; rintro e w' ⟨rfl, hw'⟩; subst w'; clear rl)
      | (go_at_call 7; refine (el_live _).mono ?_; rintro e w5 ⟨rfl, hm⟩; have H5 := Hid.mk (More.trans H3.out hm); clear hm))
    go_ret
    exact ⟨rfl, H5.out⟩
  | succ k =>
    have hbd := size_bound hC (Nat.succ_pos k)
    have rk := fun w => ref_low ((k + 1 : Nat) : Int) (f k : Nat) (by omega) (by have := hC.top k (Nat.lt_succ_self k); omega) w
    rw [lowZ_nat, show lowN (k + 1) (f k) = wdt f (k + 1) from rfl] at rk
    obtain ⟨ao, cap, rfl⟩ := h.shape
    obtain ⟨b, o, rfl, _⟩ := h.cell (w' := w) k (Nat.lt_succ_self k)
    have hc := fun w1 (hm : More w w1) => (by
      obtain ⟨b', o', he, hc⟩ := h.cell (w' := w1) k (Nat.lt_succ_self k)
      simp at he
      obtain ⟨rfl, rfl⟩ := he
      exact hc hm : w1.cell? ⟨b, o + k, none⟩ = some (.int .i64 (f k : Nat)))
    generalize sizeN f (wdt f (k + 1)) (k + 1) = S at *
    obtain ⟨M, hM⟩ : ∃ M, (k + 1) * (wdt f (k + 1) + 3) = M := ⟨_, rfl⟩
    rw [hM] at hbd
    generalize wdt f (k + 1) = D at *
    have hMb : M ≤ 200 * 43 := by rw [← hM]; exact Nat.mul_le_mul hb (by omega)
    have eM : ((k : Int) + 1) * ((D : Int) + 3) = M := by rw [← hM, Int.natCast_mul, Int.natCast_add, Int.natCast_add]; rfl
    have wM : IntKind.i64.wrap (M : Int) = M := by rw [IntKind.wrap_i64]; omega
    have hk1 : ((k : Int) + 1 == 0) = false := by simp; omega
    obtain ⟨u, hu⟩ : ∃ u, f k = u := ⟨_, rfl⟩
    simp only [hu] at hc rk
    rw [Int.natCast_add, Int.natCast_one] at rk
    clear h hC h0 hM hu
    go_enter Try.func6, Try.ntmps6
    go_wp2_with (first
      | (go_at_call 9; refine hw.mono ?_; rintro e w1 ⟨rfl, m, hm⟩; subst w1; clear hw)
      | (go_at_call 8; refine (hnew _ (More.drewN _ _)).mono ?_; rintro e w2 ⟨s, rfl, hs, hm⟩; have H2 := Hid.mk (And.intro hs (More.trans (More.drewN _ _) hm)); clear hs hm hnew)
      | (go_at_call_of 20 (Value.pointer none); refine (eln_size _).mono ?_; rintro e w' ⟨rfl, hw'⟩; subst w')
      | (go_at_call 20; refine (hs s _ w2 H2.out.1).mono ?_; rintro e w3 ⟨rfl, hm⟩; have H3 := Hid.mk (More.trans H2.out.2 hm); have hc3 := hc w3 H3.out; clear hm hs hc)
      | (go_at_call 21; refine (rz _ H3.out).mono ?_; rintro e w' ⟨rfl, hw'⟩; subst w'; clear rz)
      | (go_at_call 22; refine (hl _).mono ?_; rintro e w' ⟨rfl, hw'⟩; subst w'; clear hl)
      | (go_at_call_of 23 (Value.int IntKind.i64 u); refine (rk _).mono ?_; rintro e w' ⟨rfl, hw'⟩; subst w')
      | (go_at_call 23; refine (rl _).mono ?_; rintro e w' ⟨rfl, hw'⟩; subst w')
      | (go_at_call 7; refine (el_live _).mono ?_; rintro e w5 ⟨rfl, hm⟩; have H5 := Hid.mk (More.trans H3.out hm); clear hm))
    go_ret
    exact ⟨by simp, H5.out⟩

theorem seqSize (v : Value) (K : Nat) (g : Nat → Int) (x y : Int) (w : World) (h : ZRd w v K g) (hK : K ≤ 9223372036854775807) (hx : x ≤ 9223372036854775807) (hy : y ≤ 9223372036854775807) :
    Calls Try.prog 6 #[v, .int .i64 x, .int .i64 y] w fun e w' => e = .returned (.bool true) ∧ Below w.heap.size w w' := by
  by_cases hb : 200 < K
  · exact size_big v K g x y w h hK hb
  by_cases h0 : wrg g K = 0
  · exact size_good v K _ x y w (tell h h0) (wrg_climbs g K h0).2 (by omega) (wrg_tell g K h0) hx hy
  · exact size_bad v K g x y w h (by omega) h0

end Go.Proofs.Ytleighlmjlopiaa
