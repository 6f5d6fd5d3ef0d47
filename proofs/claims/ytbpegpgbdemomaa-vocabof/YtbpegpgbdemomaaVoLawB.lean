/-
  VocabOf, VocabLines, walked.
-/
import Derived.Test.YtbpegpgbdemomaaVoLawA
namespace Go.Proofs.Ytbpegpgbdemomaa
open Go.RowKit

theorem geI (x : Int) : (decide (0 ≤ x) == decide (0 ≤ x)) = true := by simp

set_option maxRecDepth 1000000 in
set_option maxHeartbeats 6400000 in
theorem vocabOf (a : Value) (ts : List (List UInt8)) (s : List UInt8) (w : World) (ha : ARd w a ts) (hcap : ∀ ao n c, a = .slice ao n c → n ≤ c) (hx : ∀ x ∈ ts, x.length ≤ 281474976710656) (hs : s.length ≤ 281474976710656) :
    Calls Try.prog 3 #[a, .string (bs s)] w fun e w' => e = .returned (.bool true) ∧ More w w' := by
  have hlv := fun w => live_true w
  by_cases hbig : 60 < ts.length
  · obtain ⟨ao, cap, rfl⟩ := ha.shape
    have hbig' : (60 : Int) < ts.length := by omega
    generalize ts.length = n at *
    clear ha hcap hx
    go_enter Try.func3, Try.ntmps3
    go_wp2_with (go_at_call 7; refine (hlv _).mono ?_; rintro e w1 ⟨rfl, hm⟩)
    go_ret
    exact ⟨rfl, hm⟩
  have hbig' : ¬ (60 : Int) < ts.length := by omega
  have hof := vo_Of a ts w ha hcap (by omega) hx
  have hwr := fun (W : World) (hm : More w W) => rf_wrong a ts W (ha.more hm) hcap (by omega) hx
  have hr1 := fun w => vo_right s (by omega) w
  have hr2 := fun w => rf_right s (by omega) w
  generalize rightW s = RW at *
  obtain ⟨ao, cap, rfl⟩ := ha.shape
  by_cases hR : wrV ts = 0
  · rw [hR] at hof hwr
    have hof2 : Calls Try.prog 8 #[.slice ao ts.length cap] w fun e w' => ∃ v D, e = .returned (.tuple #[.pointer (some ⟨v, 0, none⟩), .int .i64 0]) ∧ Voc w' D v ts ∧ More w w' := by
      refine hof.mono ?_
      rintro e w' ⟨p, rfl, hM, hor⟩
      rcases hor with ⟨h, _⟩ | ⟨_, v, D, rfl, hV, _⟩
      · exact absurd hR h
      · exact ⟨v, D, rfl, hV, hM⟩
    have hfd := fun (W : World) (hm : More w W) => rf_find (.slice ao ts.length cap) ts s W (ha.more hm) (by omega)
    have hid := fun (W : World) (hm : More w W) => rf_id (.slice ao ts.length cap) ts s W (ha.more hm) (by omega)
    have hvi := fun (W : World) (v : Nat) (D : Nat → Prop) (hV : Voc W D v ts) => vo_ID v W D ts s hV (by omega) hs
    have hvh := fun (W : World) (v : Nat) (D : Nat → Prop) (hV : Voc W D v ts) => vo_Has v W D ts s hV (by omega) hs
    have hvl := fun (W : World) (v : Nat) (D : Nat → Prop) (hV : Voc W D v ts) => vo_Len v W D ts hV
    have hvw := fun (W : World) (v : Nat) (D : Nat → Prop) (hV : Voc W D v ts) => vo_Words v W D ts hV (by omega)
    have hsm := fun (W : World) (u : Value) (hm : More w W) (hu : SRd W u ts) => rf_same u (.slice ao ts.length cap) ts ts W hu.ard (ha.more hm) (by omega) (by omega)
    rw [decide_eq_true rfl] at hsm
    have hFF := geI (fnd ts s)
    generalize idI ts s = ID at *
    generalize fnd ts s = F at *
    generalize ts.length = n at *
    clear hof ha hcap hx hR hbig
    go_enter Try.func3, Try.ntmps3
    go_wp2_with (first
      | (go_at_call 8; refine hof2.mono ?_; rintro e w1 ⟨v, D, rfl, hV, hM⟩; have H1 := Hid.mk (And.intro hV hM); clear hV hM hof2)
      | (go_at_call 9; refine (hwr _ H1.out.2).mono ?_; rintro e w2 ⟨rfl, hM⟩; have H2 := Hid.mk (And.intro (H1.out.1.more hM) (More.trans H1.out.2 hM)); clear hM)
      | (go_at_call 10; refine (hr1 _).mono ?_; rintro e w' ⟨rfl, hw'⟩; subst w')
      | (go_at_call 11; refine (hr2 _).mono ?_; rintro e w' ⟨rfl, hw'⟩; subst w')
      | (go_at_call 13; refine (hvw _ v D H2.out.1).mono ?_; rintro e w3 ⟨u, rfl, hG⟩; have H3 := Hid.mk (And.intro hG.rd (And.intro (H2.out.1.more hG.more) (More.trans H2.out.2 hG.more))); clear hG)
      | (go_at_call 12; refine (hsm _ _ H3.out.2.2 H3.out.1).mono ?_; rintro e w4 ⟨rfl, m, hw4⟩; have H4 := Hid.mk (show Voc w4 D v ts ∧ More w w4 by rw [hw4]; exact ⟨H3.out.2.1.more (More.drewN _ _), More.trans H3.out.2.2 (More.drewN _ _)⟩); clear hw4)
      | (go_at_call 14; refine (hvl _ v D H4.out.1).mono ?_; rintro e w5 ⟨rfl, hM⟩; have H5 := Hid.mk (And.intro (H4.out.1.more hM) (More.trans H4.out.2 hM)); clear hM)
      | (go_at_call 15; refine (hvi _ v D H5.out.1).mono ?_; rintro e w6 ⟨rfl, hM⟩; have H6 := Hid.mk (And.intro (H5.out.1.more hM) (More.trans H5.out.2 hM)); clear hM)
      | (go_at_call 16; refine (hid _ H6.out.2).mono ?_; rintro e w' ⟨rfl, hw'⟩; subst w')
      | (go_at_call 17; refine (hvh _ v D H6.out.1).mono ?_; rintro e w7 ⟨rfl, hM⟩; have H7 := Hid.mk (More.trans H6.out.2 hM); clear hM)
      | (go_at_call 18; refine (hfd _ H7.out).mono ?_; rintro e w' ⟨rfl, hw'⟩; subst w')
      | (go_at_call 7; refine (hlv _).mono ?_; rintro e w8 ⟨rfl, hM⟩; have H8 := Hid.mk hM; clear hM))
    go_ret
    exact ⟨rfl, More.trans H7.out H8.out⟩
  · have hof2 : Calls Try.prog 8 #[.slice ao ts.length cap] w fun e w' => e = .returned (.tuple #[.pointer none, .int .i64 (wrV ts)]) ∧ More w w' := by
      refine hof.mono ?_
      rintro e w' ⟨p, rfl, hM, hor⟩
      rcases hor with ⟨_, rfl⟩ | ⟨h, _⟩
      · exact ⟨rfl, hM⟩
      · exact absurd h hR
    generalize wrV ts = R at *
    have hR1 : ((R : Int) != 0) = true := by simpa using hR
    have hR2 : ¬ (R : Int) = 0 := by omega
    generalize ts.length = n at *
    clear hof ha hcap hx hR hbig
    go_enter Try.func3, Try.ntmps3
    go_wp2_with (first
      | (go_at_call 8; refine hof2.mono ?_; rintro e w1 ⟨rfl, hM⟩; have H1 := Hid.mk hM; clear hM hof2)
      | (go_at_call 9; refine (hwr _ H1.out).mono ?_; rintro e w2 ⟨rfl, hM⟩; have H2 := Hid.mk (More.trans H1.out hM); clear hM)
      | (go_at_call 10; refine (hr1 _).mono ?_; rintro e w' ⟨rfl, hw'⟩; subst w')
      | (go_at_call 11; refine (hr2 _).mono ?_; rintro e w' ⟨rfl, hw'⟩; subst w')
      | (go_at_call 7; refine (hlv _).mono ?_; rintro e w8 ⟨rfl, hM⟩; have H8 := Hid.mk hM; clear hM))
    go_ret
    exact ⟨rfl, More.trans H2.out H8.out⟩
end Go.Proofs.Ytbpegpgbdemomaa
