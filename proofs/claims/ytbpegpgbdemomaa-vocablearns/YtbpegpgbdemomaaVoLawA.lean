/-
  Law 15's live; VocabLearns, VocabOf, VocabLines, walked.
-/
import Derived.Test.YtbpegpgbdemomaaVoK
namespace Go.Proofs.Ytbpegpgbdemomaa
open Go.RowKit

def exV : List UInt8 := [98, 32, 97, 10, 98]
def exT : List (List UInt8) := [unkW, mkB, mkE, [98], [97]]
theorem exV_lrn : lrn exV = exT := by decide

theorem learn5 (w : World) : Calls Try.prog 19 #[.string (bs exV), .int .i64 5] w fun e w' => ∃ v D, e = .returned (.tuple #[.pointer (some ⟨v, 0, none⟩), .int .i64 0]) ∧ Voc w' D v exT ∧ More w w' := by
  refine (vo_Learn exV (by decide) 5 w).mono ?_
  rintro e w' ⟨p, c, rfl, hM, hor⟩
  rw [exV_lrn] at hor
  rcases hor with ⟨_, rfl, v, D, rfl, hV, _, _⟩ | ⟨h, _, _⟩
  · exact ⟨v, D, rfl, hV, hM⟩
  · simp [exT] at h
theorem learn4 (w : World) : Calls Try.prog 19 #[.string (bs exV), .int .i64 4] w fun e w' => e = .returned (.tuple #[.pointer none, .int .i64 12]) ∧ More w w' := by
  refine (vo_Learn exV (by decide) 4 w).mono ?_
  rintro e w' ⟨p, c, rfl, hM, hor⟩
  rw [exV_lrn] at hor
  rcases hor with ⟨h, _⟩ | ⟨_, rfl, rfl⟩
  · simp [exT] at h
  · exact ⟨rfl, hM⟩

set_option maxRecDepth 1000000 in
set_option maxHeartbeats 3200000 in
theorem live_true (w : World) : Calls Try.prog 7 #[] w fun e w' => e = .returned (.bool true) ∧ More w w' := by
  have T1 := Hid.mk True.intro
  have hsame : ∀ (u : Value) (W : World) (gg : Nat) (hgg : gg = W.heap.size) (hu : SRd W u exT), Calls Try.prog 12 #[u, .slice (some ⟨gg, 0, none⟩) 5 5] (W.alloc (.cells #[.string (bs unkW), .string (bs mkB), .string (bs mkE), .string (bs [98]), .string (bs [97])] 9)) fun e w' => e = .returned (.bool true) ∧ More W w' := fun u W gg hgg hu => by
    subst hgg
    refine (rf_same u _ exT exT _ (hu.more (more_alloc _ _)).ard (SRd.lit rfl rfl (by decide)).ard (by decide) (by decide)).mono ?_
    rintro e w' ⟨rfl, m, rfl⟩
    rw [decide_eq_true rfl]
    exact ⟨rfl, More.trans (more_alloc _ _) (More.drewN _ _)⟩
  go_enter Try.func7, Try.ntmps7
  go_wp2_with (first
    | (have TT := T1; clear T1 TT; go_at_call 19; refine (learn5 _).mono ?_; rintro e w1 ⟨v, D, rfl, hV, hM⟩; have H1 := Hid.mk (And.intro hV hM); clear hV hM)
    | (go_at_call 19; refine (learn4 _).mono ?_; rintro e w2 ⟨rfl, hM⟩; have H2 := Hid.mk hM; clear hM)
    | (go_at_call 13; refine (vo_Words v _ D exT (H1.out.1.more H2.out) (by decide)).mono ?_; rintro e w3 ⟨u, rfl, hG⟩; have H3 := Hid.mk hG; clear hG)
    | (go_at_call 12; refine (hsame u w3 _ ?_ H3.out.rd).mono ?_; · simp
       rintro e w4 ⟨rfl, hM⟩; have H4 := Hid.mk hM; clear hM))
  go_ret
  exact ⟨rfl, More.trans H1.out.2 (More.trans H2.out (More.trans H3.out.more H4.out))⟩

set_option maxRecDepth 1000000 in
set_option maxHeartbeats 3200000 in
theorem vocabLearns (l : List UInt8) (hl : l.length ≤ 9223372036854775807) (most : Int) (w : World) :
    Calls Try.prog 4 #[.string (bs l), .int .i64 most] w fun e w' => e = .returned (.bool true) ∧ More w w' := by
  have hlv := fun w => live_true w
  have hsz : (bs l).size = l.length := bs_size l
  by_cases hbig : 600 < l.length
  · have hbig' : (600 : Int) < l.length := by omega
    generalize l.length = n at *
    go_enter Try.func4, Try.ntmps4
    go_wp2_with (go_at_call 7; refine (hlv _).mono ?_; rintro e w1 ⟨rfl, hm⟩)
    go_ret
    exact ⟨rfl, hm⟩
  have hbig' : ¬ (600 : Int) < l.length := by omega
  have ht := fun w => vo_Learn l (by omega) most w
  have hr := fun w => rf_learn l (by omega) w
  have hlen := lrn_len l
  obtain ⟨ts, hts⟩ : ∃ ts, lrn l = ts := ⟨_, rfl⟩
  rw [hts] at ht hr hlen
  obtain ⟨n, hn⟩ : ∃ n, l.length = n := ⟨_, rfl⟩
  obtain ⟨k, hk⟩ : ∃ k, ts.length = k := ⟨_, rfl⟩
  rw [hn] at hlen hsz hbig' hbig
  have HL := Hid.mk (And.intro hlen hk)
  clear hts hn hl hlen
  by_cases hm : most < (k : Int)
  · have hlr : ∀ w, Calls Try.prog 19 #[.string (bs l), .int .i64 most] w fun e w' => e = .returned (.tuple #[.pointer none, .int .i64 12]) ∧ More w w' := fun w => by
      refine (ht w).mono ?_
      rintro e w' ⟨p, c, rfl, hM, hor⟩
      rcases hor with ⟨h, _⟩ | ⟨_, rfl, rfl⟩
      · rw [HL.out.2] at h; omega
      · exact ⟨rfl, hM⟩
    clear ht hk
    go_enter Try.func4, Try.ntmps4
    go_wp2_with (first
      | (go_at_call 19; refine (hlr _).mono ?_; rintro e w1 ⟨rfl, hM⟩; have H1 := Hid.mk hM; clear hM)
      | (go_at_call 20; refine (hr _).mono ?_; rintro e w2 ⟨u, rfl, hS, hM⟩; have hsh := hS.shape; rw [HL.out.2] at hsh; obtain ⟨ao, cp, rfl⟩ := hsh; have H2 := Hid.mk hM; clear hS hM)
      | (go_at_call 7; refine (hlv _).mono ?_; rintro e w3 ⟨rfl, hM⟩; have H3 := Hid.mk hM; clear hM))
    go_ret
    exact ⟨rfl, More.trans H1.out (More.trans H2.out H3.out)⟩
  · have hlr : ∀ w, Calls Try.prog 19 #[.string (bs l), .int .i64 most] w fun e w' => ∃ v D, e = .returned (.tuple #[.pointer (some ⟨v, 0, none⟩), .int .i64 0]) ∧ Voc w' D v ts ∧ More w w' := fun w => by
      refine (ht w).mono ?_
      rintro e w' ⟨p, c, rfl, hM, hor⟩
      rcases hor with ⟨_, rfl, v, D, rfl, hV, _, _⟩ | ⟨h, _⟩
      · exact ⟨v, D, rfl, hV, hM⟩
      · rw [HL.out.2] at h; omega
    have hkb : ts.length ≤ 1000000 := by have := HL.out.1; omega
    clear ht hk
    have HK := Hid.mk hkb
    clear hkb
    go_enter Try.func4, Try.ntmps4
    go_wp2_with (first
      | (go_at_call 19; refine (hlr _).mono ?_; rintro e w1 ⟨v, D, rfl, hV, hM⟩; have H1 := Hid.mk (And.intro hV hM); clear hM hV)
      | (go_at_call 20; refine (hr _).mono ?_; rintro e w2 ⟨u, rfl, hS, hM⟩; have H2 := Hid.mk (And.intro hS hM); have hsh := hS.shape; rw [HL.out.2] at hsh; obtain ⟨ao, cp, rfl⟩ := hsh; clear hS hM)
      | (go_at_call 13; refine (vo_Words v _ D ts (H1.out.1.more H2.out.2) HK.out).mono ?_; rintro e w3 ⟨u3, rfl, hG⟩; have H3 := Hid.mk hG; clear hG)
      | (go_at_call 12; refine (rf_same _ _ ts ts w3 H3.out.rd.ard (H2.out.1.more H3.out.more).ard HK.out HK.out).mono ?_; rintro e w4 ⟨rfl, m, hw4⟩; rw [decide_eq_true rfl]; have H4 := Hid.mk (show More w3 w4 by rw [hw4]; exact More.drewN _ _); clear hw4)
      | (go_at_call 7; refine (hlv _).mono ?_; rintro e w5 ⟨rfl, hM⟩; have H5 := Hid.mk hM; clear hM))
    go_ret
    exact ⟨rfl, More.trans H1.out.2 (More.trans H2.out.2 (More.trans H3.out.more (More.trans H4.out H5.out)))⟩
end Go.Proofs.Ytbpegpgbdemomaa
