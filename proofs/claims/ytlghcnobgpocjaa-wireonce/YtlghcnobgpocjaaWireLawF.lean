/-
  Law 10's read of nil; WireOnce, walked.
-/
import Derived.Test.YtlghcnobgpocjaaWireLawB
namespace Go.Proofs.Ytlghcnobgpocjaa
open Go.RowKit

set_option maxHeartbeats 3200000 in
set_option maxRecDepth 1000000 in
theorem no_read (base x : Nat) (kd : Int) (v : Nat) (N : Int) (s : List UInt8) (w : World) (hx : XAt w base x [] 11) (hN : -9223372036854775808 ≤ N ∧ N ≤ 9223372036854775807) :
    Calls Try.prog 12 #[.pointer none, .pointer (some ⟨x, 0, none⟩), partV kd v N s] w fun e w' => e = .returned (.bool true) ∧ Below base w w' := by
  have hm := More.alloc w (partO kd v N s)
  have HB := Hid.mk (And.intro (heap_alloc_new w (partO kd v N s)) (And.intro (hm.mono hx.sz) hx.sz))
  have HR := Hid.mk (hx.more hm)
  have HD := Hid.mk (show ((w.alloc (partO kd v N s)).drew.heap[w.heap.size]? = some (partO kd v N s)) ∧ Below base w (w.alloc (partO kd v N s)).drew ∧ XAt (w.alloc (partO kd v N s)).drew base x [] 11 ∧ base ≤ (w.alloc (partO kd v N s)).drew.heap.size from
    ⟨heap_alloc_new w _, (hm.trans (More.drew _)).mono hx.sz, hx.more (hm.trans (More.drew _)), Nat.le_trans hx.sz (hm.trans (More.drew _)).size⟩)
  clear hx hm
  by_cases k0 : kd = 0
  · subst k0
    have h2 := fun w h => ref_rnum base x 0 11 11 0 [] w h (st_no (by decide) _ _)
    go_enter Try.func12, Try.ntmps12
    go_wp2_with (first
      | (go_at_call 17; refine (no_num _).mono ?_; rintro e w1 ⟨rfl, hm⟩; have H1 := Hid.mk (And.intro (HR.out.more hm) (Below.trans HB.out.2.1 (hm.mono HR.out.sz))); clear hm)
      | (go_at_call 28; refine (h2 w1 H1.out.1).mono ?_; rintro e w2 ⟨rfl, ha, hb⟩; have H2 := Hid.mk (Below.trans H1.out.2 hb.below); clear ha hb))
    go_ret
    exact ⟨by simp, H2.out⟩
  by_cases k1 : kd = 1
  · subst k1
    have h2 := fun w h => ref_rint base x 0 11 11 0 [] w h (st_no (by decide) _ _)
    go_enter Try.func12, Try.ntmps12
    go_wp2_with (first
      | (go_at_call 18; refine (no_int _).mono ?_; rintro e w1 ⟨rfl, hm⟩; have H1 := Hid.mk (And.intro (HR.out.more hm) (Below.trans HB.out.2.1 (hm.mono HR.out.sz))); clear hm)
      | (go_at_call 29; refine (h2 w1 H1.out.1).mono ?_; rintro e w2 ⟨rfl, ha, hb⟩; have H2 := Hid.mk (Below.trans H1.out.2 hb.below); clear ha hb))
    go_ret
    exact ⟨by simp, H2.out⟩
  by_cases k2 : kd = 2
  · subst k2
    have h2 := fun w h => ref_rtext base x 0 11 11 N [] [] w h hN (st_no (by decide) _ _)
    go_enter Try.func12, Try.ntmps12
    go_wp2_with fail
    go_region_held (fun w' => w'.cell? ⟨w.heap.size, 2, none⟩ = some (.int .i64 N))
      (first | assumption | exact (cells4 HD.out.1).2.2.1)
      (first
        | (go_at_call 19; refine (no_text N _).mono ?_; rintro e w1 ⟨rfl, hm⟩; have hS1 := (cells4 (hm.at HD.out.1)).2.2.1; have H1 := Hid.mk (And.intro (HD.out.2.2.1.more hm) (And.intro (Below.trans HD.out.2.1 (hm.mono HD.out.2.2.2)) (hm.at HD.out.1))); clear hm)
        | (go_at_call 30; refine (h2 w1 H1.out.1).mono ?_; rintro e w2 ⟨rfl, ha, hb⟩; have hS2 := (cells4 (box_x hb H1.out.2.2)).2.2.1; have H2 := Hid.mk (Below.trans H1.out.2.1 hb.below); clear ha hb))
    go_wp2
    go_ret
    exact ⟨by simp, H2.out⟩
  by_cases k3 : kd = 3
  · subst k3
    have h2 := fun w h => ref_rraw base x 0 11 11 N [] [] w h hN (st_no (by decide) _ _)
    go_enter Try.func12, Try.ntmps12
    go_wp2_with fail
    go_region_held (fun w' => w'.cell? ⟨w.heap.size, 2, none⟩ = some (.int .i64 N))
      (first | assumption | exact (cells4 HD.out.1).2.2.1)
      (first
        | (go_at_call 20; refine (no_raw N _).mono ?_; rintro e w1 ⟨rfl, hm⟩; have hS1 := (cells4 (hm.at HD.out.1)).2.2.1; have H1 := Hid.mk (And.intro (HD.out.2.2.1.more hm) (And.intro (Below.trans HD.out.2.1 (hm.mono HD.out.2.2.2)) (hm.at HD.out.1))); clear hm)
        | (go_at_call 31; refine (h2 w1 H1.out.1).mono ?_; rintro e w2 ⟨rfl, ha, hb⟩; have hS2 := (cells4 (box_x hb H1.out.2.2)).2.2.1; have H2 := Hid.mk (Below.trans H1.out.2.1 hb.below); clear ha hb))
    go_wp2
    go_ret
    exact ⟨by simp, H2.out⟩
  by_cases k4 : kd = 4
  · subst k4
    have h2 := fun w h => ref_rupto base x 0 11 11 0 N [] w h hN (st_no (by decide) _ _)
    go_enter Try.func12, Try.ntmps12
    go_wp2_with fail
    go_region_held (fun w' => w'.cell? ⟨w.heap.size, 2, none⟩ = some (.int .i64 N))
      (first | assumption | exact (cells4 HD.out.1).2.2.1)
      (first
        | (go_at_call 32; refine (no_upto N _).mono ?_; rintro e w1 ⟨rfl, hm⟩; have hS1 := (cells4 (hm.at HD.out.1)).2.2.1; have H1 := Hid.mk (And.intro (HD.out.2.2.1.more hm) (And.intro (Below.trans HD.out.2.1 (hm.mono HD.out.2.2.2)) (hm.at HD.out.1))); clear hm)
        | (go_at_call 33; refine (h2 w1 H1.out.1).mono ?_; rintro e w2 ⟨rfl, ha, hb⟩; have hS2 := (cells4 (box_x hb H1.out.2.2)).2.2.1; have H2 := Hid.mk (Below.trans H1.out.2.1 hb.below); clear ha hb))
    go_wp2
    go_ret
    exact ⟨by simp, H2.out⟩
  have n0 : (kd == 0) = false := by simp [k0]
  have n1 : (kd == 1) = false := by simp [k1]
  have n2 : (kd == 2) = false := by simp [k2]
  have n3 : (kd == 3) = false := by simp [k3]
  have n4 : (kd == 4) = false := by simp [k4]
  clear k0 k1 k2 k3 k4
  by_cases hr : 1 ≤ N ∧ N ≤ 12
  · obtain ⟨F, rfl⟩ := Int.eq_ofNat_of_zero_le (show 0 ≤ N by omega)
    obtain ⟨hr1, hr2⟩ := hr
    obtain ⟨f0, f1, f2, f3⟩ := cells2 HR.out.mem
    go_enter Try.func12, Try.ntmps12
    go_wp2_with (go_at_call 34; refine (no_fail F _).mono ?_; rintro e w' ⟨rfl, hw'⟩; subst w')
    go_ret
    exact ⟨rfl, HB.out.2.1⟩
  · rcases (show N < 1 ∨ (1 ≤ N ∧ 12 < N) by omega) with h1 | ⟨h1, h2⟩
    all_goals
      clear hr HR HD
      go_enter Try.func12, Try.ntmps12
      go_wp2
      go_ret
      exact ⟨rfl, HB.out.2.1⟩

end Go.Proofs.Ytlghcnobgpocjaa
