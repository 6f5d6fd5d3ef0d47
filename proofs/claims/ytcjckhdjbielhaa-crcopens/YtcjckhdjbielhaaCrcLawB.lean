/-
  CrcOpens, walked.
-/
import Derived.Test.YtcjckhdjbielhaaCrcLawA
namespace Go.Proofs.Ytcjckhdjbielhaa
open Go.RowKit

set_option maxHeartbeats 1600000 in
set_option maxRecDepth 1000000 in
theorem opens_short (l : List UInt8) (hl : l.length < 4) (w : World) :
    Calls Try.prog 5 #[.string (bs l)] w fun e w' => e = .returned (.bool true) ∧ More w w' := by
  have hlv := fun w => live_true w
  have hnil : (bs []).toList = [] := bs_list []
  have hsz : (bs l).size = l.length := bs_size l
  have hS := fun w => crc_Seal l (by omega) w
  have hR := fun w => ref_Seal l (by omega) w
  have hO1 := fun w => crc_Open_good l (by omega) w
  have hO2 := fun w => crc_Open_short l hl w
  generalize bs (l ++ sealB (crcM 0 l)) = z at *
  generalize l.length = n at *
  have T1 := Hid.mk True.intro
  go_enter Try.func5, Try.ntmps5
  go_wp2_with (first
    | (go_at_call 11; refine (hS _).mono ?_; rintro e w1 ⟨rfl, hm1⟩; have H1 := Hid.mk hm1; clear hm1)
    | (have TT := T1; clear T1 TT; go_at_call 12; refine (hO1 _).mono ?_; rintro e w2 ⟨rfl, hm2⟩; have H2 := Hid.mk (More.trans H1.out hm2); clear hm2)
    | (go_at_call 13; refine (hR _).mono ?_; rintro e w3 ⟨rfl, hm3⟩; have H3 := Hid.mk (More.trans H2.out hm3); clear hm3)
    | (go_at_call 12; refine (hO2 _).mono ?_; rintro e w4 ⟨rfl, hm4⟩; have H4 := Hid.mk (More.trans H3.out hm4); clear hm4)
    | (go_at_call 7; refine (hlv _).mono ?_; rintro e w5 ⟨rfl, hm5⟩; have H5 := Hid.mk (More.trans H4.out hm5); clear hm5))
  go_ret
  exact ⟨rfl, H5.out⟩

set_option maxHeartbeats 3200000 in
set_option maxRecDepth 1000000 in
theorem opens_good (a t : List UInt8) (ha : a.length ≤ 196) (ht : t.length = 4) (hgood : t = sealB (crcM 0 a)) (w : World) :
    Calls Try.prog 5 #[.string (bs (a ++ t))] w fun e w' => e = .returned (.bool true) ∧ More w w' := by
  have hlv := fun w => live_true w
  have hnil : (bs []).toList = [] := bs_list []
  have hsz : (bs (a ++ t)).size = a.length + 4 := by rw [bs_size, List.length_append, ht]
  have hll : (a ++ t).length ≤ 1000000 := by rw [List.length_append]; omega
  have hS := fun w => crc_Seal (a ++ t) hll w
  have hR := fun w => ref_Seal (a ++ t) hll w
  have hR2 := fun w => ref_Seal a (by omega) w
  have hO1 := fun w => crc_Open_good (a ++ t) hll w
  have hO2 := fun w => crc_Open_good a (by omega) w
  rw [← hgood] at hO2 hR2
  have hto := cslice_to (a ++ t) a.length a.length rfl (by simp)
  rw [List.take_left] at hto
  generalize bs (a ++ t ++ sealB (crcM 0 (a ++ t))) = z at *
  generalize a.length = n at *
  generalize a ++ t = l at *
  clear hgood ht hll
  have T1 := Hid.mk True.intro
  have T2 := Hid.mk True.intro
  go_enter Try.func5, Try.ntmps5
  go_wp2_with (first
    | (go_at_call 11; refine (hS _).mono ?_; rintro e w1 ⟨rfl, hm1⟩; have H1 := Hid.mk hm1; clear hm1)
    | (have TT := T1; clear T1 TT; go_at_call 12; refine (hO1 _).mono ?_; rintro e w2 ⟨rfl, hm2⟩; have H2 := Hid.mk (More.trans H1.out hm2); clear hm2)
    | (have TT := T2; clear T2 TT; go_at_call 13; refine (hR _).mono ?_; rintro e w3 ⟨rfl, hm3⟩; have H3 := Hid.mk (More.trans H2.out hm3); clear hm3)
    | (go_at_call 12; refine (hO2 _).mono ?_; rintro e w4 ⟨rfl, hm4⟩; have H4 := Hid.mk (More.trans H3.out hm4); clear hm4)
    | (go_at_call 13; refine (hR2 _).mono ?_; rintro e w5 ⟨rfl, hm5⟩; have H5 := Hid.mk (More.trans H4.out hm5); clear hm5)
    | (go_at_call 7; refine (hlv _).mono ?_; rintro e w6 ⟨rfl, hm6⟩; have H6 := Hid.mk (More.trans H5.out hm6); clear hm6))
  go_ret
  exact ⟨rfl, H6.out⟩

set_option maxHeartbeats 3200000 in
set_option maxRecDepth 1000000 in
theorem opens_bad (a t : List UInt8) (ha : a.length ≤ 196) (ht : t.length = 4) (hbad : t ≠ sealB (crcM 0 a)) (w : World) :
    Calls Try.prog 5 #[.string (bs (a ++ t))] w fun e w' => e = .returned (.bool true) ∧ More w w' := by
  have hlv := fun w => live_true w
  have hnil : (bs []).toList = [] := bs_list []
  have hsz : (bs (a ++ t)).size = a.length + 4 := by rw [bs_size, List.length_append, ht]
  have hll : (a ++ t).length ≤ 1000000 := by rw [List.length_append]; omega
  have hS := fun w => crc_Seal (a ++ t) hll w
  have hR := fun w => ref_Seal (a ++ t) hll w
  have hR2 := fun w => ref_Seal a (by omega) w
  have hO1 := fun w => crc_Open_good (a ++ t) hll w
  have hO2 := fun w => crc_Open_bad a t (by omega) ht hbad w
  have hto := cslice_to (a ++ t) a.length a.length rfl (by simp)
  rw [List.take_left] at hto
  have hne : ((bs (a ++ sealB (crcM 0 a))).toList == (bs (a ++ t)).toList) = false := bs_ne (fun e => hbad (List.append_cancel_left e).symm)
  generalize bs (a ++ t ++ sealB (crcM 0 (a ++ t))) = z at *
  generalize bs (a ++ sealB (crcM 0 a)) = y at *
  generalize a.length = n at *
  generalize a ++ t = l at *
  clear hbad ht hll
  have T1 := Hid.mk True.intro
  have T2 := Hid.mk True.intro
  go_enter Try.func5, Try.ntmps5
  go_wp2_with (first
    | (go_at_call 11; refine (hS _).mono ?_; rintro e w1 ⟨rfl, hm1⟩; have H1 := Hid.mk hm1; clear hm1)
    | (have TT := T1; clear T1 TT; go_at_call 12; refine (hO1 _).mono ?_; rintro e w2 ⟨rfl, hm2⟩; have H2 := Hid.mk (More.trans H1.out hm2); clear hm2)
    | (have TT := T2; clear T2 TT; go_at_call 13; refine (hR _).mono ?_; rintro e w3 ⟨rfl, hm3⟩; have H3 := Hid.mk (More.trans H2.out hm3); clear hm3)
    | (go_at_call 12; refine (hO2 _).mono ?_; rintro e w4 ⟨rfl, hm4⟩; have H4 := Hid.mk (More.trans H3.out hm4); clear hm4)
    | (go_at_call 13; refine (hR2 _).mono ?_; rintro e w5 ⟨rfl, hm5⟩; have H5 := Hid.mk (More.trans H4.out hm5); clear hm5)
    | (go_at_call 7; refine (hlv _).mono ?_; rintro e w6 ⟨rfl, hm6⟩; have H6 := Hid.mk (More.trans H5.out hm6); clear hm6))
  go_ret
  exact ⟨rfl, H6.out⟩

set_option maxRecDepth 1000000 in
theorem crcOpens (l : List UInt8) (hl : l.length ≤ 9223372036854775807) (w : World) :
    Calls Try.prog 5 #[.string (bs l)] w fun e w' => e = .returned (.bool true) ∧ More w w' := by
  by_cases hbig : 200 < l.length
  · have hlv := fun w => live_true w
    have hsz : (bs l).size = l.length := bs_size l
    have hbig' : (200 : Int) < l.length := by omega
    generalize l.length = n at *
    go_enter Try.func5, Try.ntmps5
    go_wp2_with (go_at_call 7; refine (hlv _).mono ?_; rintro e w1 ⟨rfl, hm⟩)
    go_ret
    exact ⟨rfl, hm⟩
  by_cases hs : l.length < 4
  · exact opens_short l hs w
  · have he : l = l.take (l.length - 4) ++ l.drop (l.length - 4) := (List.take_append_drop _ _).symm
    have ha : (l.take (l.length - 4)).length ≤ 196 := by rw [List.length_take]; omega
    have ht : (l.drop (l.length - 4)).length = 4 := by rw [List.length_drop]; omega
    rw [he]
    by_cases hg : l.drop (l.length - 4) = sealB (crcM 0 (l.take (l.length - 4)))
    · exact opens_good _ _ ha ht hg w
    · exact opens_bad _ _ ha ht hg w
end Go.Proofs.Ytcjckhdjbielhaa
