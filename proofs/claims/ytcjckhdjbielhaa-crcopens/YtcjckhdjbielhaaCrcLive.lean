/-
  What law 12 asks at its end.
-/
import Derived.Test.YtcjckhdjbielhaaCrcB
namespace Go.Proofs.Ytcjckhdjbielhaa
open Go.RowKit

theorem ts_none (w : World) : TsRd (w.alloc (.cells #[.string ⟨#[]⟩] 9)) (.slice (some ⟨w.heap.size, 0, none⟩) 1 1) 1 (fun _ => []) := ts_one [] w

theorem seal_none : bs ([] ++ sealB (crcM 0 [])) = ⟨#[0, 0, 0, 0]⟩ := by
  rw [crcM_nil 0 (by decide)]
  rfl
theorem seal_ab (w : World) : Calls Try.prog 11 #[.string ⟨#[97, 98]⟩] w fun e w' => e = .returned (.string (bs ([97, 98] ++ sealB (crcM 0 [97, 98])))) ∧ More w w' := crc_Seal [97, 98] (by decide) w
theorem open_ab (w : World) : Calls Try.prog 12 #[.string (bs ([97, 98] ++ sealB (crcM 0 [97, 98])))] w fun e w' => e = .returned (.tuple #[.string ⟨#[97, 98]⟩, .int .i64 0]) ∧ More w w' := crc_Open_good [97, 98] (by decide) w
theorem seal_no (w : World) : Calls Try.prog 11 #[.string ⟨#[]⟩] w fun e w' => e = .returned (.string ⟨#[0, 0, 0, 0]⟩) ∧ More w w' := by
  rw [← seal_none]
  exact crc_Seal [] (by decide) w
theorem of_none (w : World) : Calls Try.prog 10 #[.slice (some ⟨w.heap.size, 0, none⟩) 1 1] (w.alloc (.cells #[.string ⟨#[]⟩] 9)) fun e w' => e = .returned (.int .u32 0) ∧ w' = w.alloc (.cells #[.string ⟨#[]⟩] 9) := by
  have h := crc_of _ 1 (fun _ => []) _ (ts_none w) (by decide) (fun _ _ => by decide)
  rw [crcS, crcS, crcM_nil 0 (by decide)] at h
  exact h
set_option maxHeartbeats 1600000 in
set_option maxRecDepth 1000000 in
theorem live_true (w : World) : Calls Try.prog 7 #[] w fun e w' => e = .returned (.bool true) ∧ More w w' := by
  have hS := fun w => seal_ab w
  have hO := fun w => open_ab w
  have hS0 := fun w => seal_no w
  have hof := fun w => of_none w
  generalize bs ([97, 98] ++ sealB (crcM 0 [97, 98])) = z at *
  have T1 := Hid.mk True.intro
  go_enter Try.func7, Try.ntmps7
  go_wp2_with (first
    | (go_at_call 12; refine (hO _).mono ?_; rintro e w2 ⟨rfl, hm2⟩; have H2 := Hid.mk (More.trans H1.out hm2); clear hm2)
    | (go_at_call 10; refine (hof _).mono ?_; rintro e w' ⟨rfl, hw'⟩; subst w')
    | (have T2 := T1; clear T1 T2; go_at_call 11; refine (hS _).mono ?_; rintro e w1 ⟨rfl, hm1⟩; have H1 := Hid.mk hm1; clear hm1 hS)
    | (go_at_call 11; refine (hS0 _).mono ?_; rintro e w3 ⟨rfl, hm3⟩; have H3 := Hid.mk hm3; clear hm3))
  go_ret
  exact ⟨rfl, H2.out.trans ((More.alloc _ _).trans H3.out)⟩
end Go.Proofs.Ytcjckhdjbielhaa
