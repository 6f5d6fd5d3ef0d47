/-
  VocabLines, walked.
-/
import Derived.Test.YtbpegpgbdemomaaVoLawA
namespace Go.Proofs.Ytbpegpgbdemomaa
open Go.RowKit

theorem wdI_nil (i : Int) : wdI [] i = [] := by
  unfold wdI
  split <;> simp
theorem ard_nil (w : World) : ARd w (.slice none 0 0) [] := .inl ⟨rfl, _, _, rfl⟩

set_option maxRecDepth 1000000 in
set_option maxHeartbeats 6400000 in
theorem vocabLines (a b c : Value) (ts ws : List (List UInt8)) (K : Nat) (g : Nat → Int) (w : World) (ha : ARd w a ts) (hcap : ∀ ao n c, a = .slice ao n c → n ≤ c) (hx : ∀ x ∈ ts, x.length ≤ 281474976710656)
    (hb : ARd w b ws) (hxb : ∀ x ∈ ws, x.length ≤ 281474976710656) (hc : ZRd w c K g) :
    Calls Try.prog 6 #[a, b, c] w fun e w' => e = .returned (.bool true) ∧ More w w' := by
  have hlv := fun w => live_true w
  by_cases h1 : 40 < ts.length
  · obtain ⟨ao, ca, rfl⟩ := ha.shape
    obtain ⟨bo, cb, rfl⟩ := hb.shape
    obtain ⟨co, cc, rfl⟩ := hc.shape
    have h1' : (40 : Int) < ts.length := by omega
    generalize ts.length = n at *
    generalize ws.length = m at *
    clear ha hb hc hcap hx hxb
    go_enter Try.func6, Try.ntmps6
    go_wp2_with (go_at_call 7; refine (hlv _).mono ?_; rintro e w1 ⟨rfl, hm⟩)
    go_ret
    exact ⟨rfl, hm⟩
  have h1' : ¬ (40 : Int) < ts.length := by omega
  by_cases h2 : 60 < ws.length
  · obtain ⟨ao, ca, rfl⟩ := ha.shape
    obtain ⟨bo, cb, rfl⟩ := hb.shape
    obtain ⟨co, cc, rfl⟩ := hc.shape
    have h2' : (60 : Int) < ws.length := by omega
    generalize ts.length = n at *
    generalize ws.length = m at *
    clear ha hb hc hcap hx hxb
    go_enter Try.func6, Try.ntmps6
    go_wp2_with (go_at_call 7; refine (hlv _).mono ?_; rintro e w1 ⟨rfl, hm⟩)
    go_ret
    exact ⟨rfl, hm⟩
  have h2' : ¬ (60 : Int) < ws.length := by omega
  by_cases h3 : 60 < K
  · obtain ⟨ao, ca, rfl⟩ := ha.shape
    obtain ⟨bo, cb, rfl⟩ := hb.shape
    obtain ⟨co, cc, rfl⟩ := hc.shape
    have h3' : (60 : Int) < K := by omega
    generalize ts.length = n at *
    generalize ws.length = m at *
    clear ha hb hc hcap hx hxb
    go_enter Try.func6, Try.ntmps6
    go_wp2_with (go_at_call 7; refine (hlv _).mono ?_; rintro e w1 ⟨rfl, hm⟩)
    go_ret
    exact ⟨rfl, hm⟩
  have h3' : ¬ (60 : Int) < K := by omega
  have hwr := rf_wrong a ts w ha hcap (by omega) hx
  by_cases hR : wrV ts = 0
  · have hof : ∀ W, More w W → Calls Try.prog 8 #[a] W fun e w' => ∃ v D, e = .returned (.tuple #[.pointer (some ⟨v, 0, none⟩), .int .i64 0]) ∧ Voc w' D v ts ∧ More W w' := fun W hW => by
      refine (vo_Of a ts W (ha.more hW) hcap (by omega) hx).mono ?_
      rintro e w' ⟨p, rfl, hM, hor⟩
      rw [hR]
      rcases hor with ⟨h, _⟩ | ⟨_, v, D, rfl, hV, _⟩
      · exact absurd hR h
      · exact ⟨v, D, rfl, hV, hM⟩
    have hwd := wr_words hR
    rw [hR] at hwr
    have hi1 := fun (W : World) (v : Nat) (D : Nat → Prop) (hM : More w W) (hV : Voc W D v ts) => vo_ids (some ⟨v, 0, none⟩) b ts ws W (hb.more hM) (by omega) hxb (fun W2 hM2 s hs => vo_ID v W2 D ts s (hV.more hM2) (by omega) hs)
    have hi2 := fun (W : World) (hM : More w W) => rf_ids a b ts ws W (ha.more hM) (hb.more hM) (by omega) (by omega)
    have hi3 := fun (W : World) (hM : More w W) => vo_ids none b [] ws W (hb.more hM) (by omega) hxb (fun W2 _ s _ => by rw [idI_nil]; exact von_ID (bs s) W2)
    have hi4 := fun (W : World) (hM : More w W) => rf_ids (.slice none 0 0) b [] ws W (ard_nil W) (hb.more hM) (by simp) (by omega)
    have hl1 := fun (W : World) (v : Nat) (D : Nat → Prop) (hM : More w W) (hV : Voc W D v ts) => vo_line (some ⟨v, 0, none⟩) c ts K g W (hc.more hM) (by omega) hwd (fun W2 hM2 i => vo_Word v W2 D ts i (hV.more hM2))
    have hl2 := fun (W : World) (hM : More w W) => rf_line a c ts K g W (ha.more hM) (hc.more hM) (by omega) (fun i hi => (hwd i hi).2)
    have hl3 := fun (W : World) (hM : More w W) => vo_line none c [] K g W (hc.more hM) (by omega) (fun i hi => by simp at hi) (fun W2 _ i => by rw [wdI_nil]; exact von_Word i W2)
    have hl4 := fun (W : World) (hM : More w W) => rf_line (.slice none 0 0) c [] K g W (ard_nil W) (hc.more hM) (by omega) (fun i hi => by simp at hi)
    have his := fun (x y : Value) (f : Nat → Nat) (W : World) (B1 B2 : Nat) (h1 : NRow W B1 x ws.length f) (h2 : NRow W B2 y ws.length f) => rf_ints x y ws.length _ _ W h1.zrd h2.zrd (fun _ _ => rfl) (by omega)
    obtain ⟨ao, ca, rfl⟩ := ha.shape
    obtain ⟨bo, cb, rfl⟩ := hb.shape
    obtain ⟨co, cc, rfl⟩ := hc.shape
    generalize jn (fun j => lnI ts (g j)) K = J1 at *
    generalize jn (fun j => lnI [] (g j)) K = J2 at *
    generalize (fun j => idN ts (ws.getD j [])) = f1 at *
    generalize (fun j => idN [] (ws.getD j [])) = f2 at *
    generalize ts.length = n at *
    generalize ws.length = m at *
    have T1 := Hid.mk True.intro
    have T2 := Hid.mk True.intro
    have T3 := Hid.mk True.intro
    have T4 := Hid.mk True.intro
    have T5 := Hid.mk True.intro
    clear ha hb hc hcap hx hxb hwd hR h1 h2 h3
    go_enter Try.func6, Try.ntmps6
    go_wp2_with (first
      | (go_at_call 9; refine hwr.mono ?_; rintro e w1 ⟨rfl, hM⟩; have H1 := Hid.mk hM; clear hM hwr)
      | (go_at_call 8; refine (hof _ H1.out).mono ?_; rintro e w2 ⟨v, D, rfl, hV, hM⟩; have H2 := Hid.mk (And.intro hV (More.trans H1.out hM)); clear hV hM hof)
      | (have TT := T1; go_at_call 27; clear T1 TT; refine (hi1 _ v D H2.out.2 H2.out.1).mono ?_; rintro e w3 ⟨r3, rfl, hN, hM⟩; have H3 := Hid.mk (And.intro hN (And.intro hM (More.trans H2.out.2 hM))); clear hN hM hi1)
      | (have TT := T2; go_at_call 28; clear T2 TT; refine (hi2 _ H3.out.2.2).mono ?_; rintro e w4 ⟨r4, rfl, hN, hM⟩; have H4 := Hid.mk (And.intro hN (And.intro hM (More.trans H3.out.2.2 hM))); clear hN hM hi2)
      | (have TT := T3; go_at_call 26; clear T3 TT; refine (his _ _ f1 _ _ _ (H3.out.1.more H4.out.2.1) H4.out.1).mono ?_; rintro e w5 ⟨rfl, q, hw5⟩; have H5 := Hid.mk (show Voc w5 D v ts ∧ More w w5 by rw [hw5]; exact ⟨(H2.out.1.more (More.trans H3.out.2.1 H4.out.2.1)).more (More.drewN _ _), More.trans H4.out.2.2 (More.drewN _ _)⟩); clear hw5)
      | (have TT := T4; go_at_call 29; clear T4 TT; refine (hl1 _ v D H5.out.2 H5.out.1).mono ?_; rintro e w6 ⟨rfl, hM⟩; have H6 := Hid.mk (More.trans H5.out.2 hM); clear hM hl1)
      | (have TT := T5; go_at_call 30; clear T5 TT; refine (hl2 _ H6.out).mono ?_; rintro e w7 ⟨rfl, hM⟩; have H7 := Hid.mk (More.trans H6.out hM); clear hM hl2)
      | (go_at_call 27; refine (hi3 _ H7.out).mono ?_; rintro e w8 ⟨r8, rfl, hN, hM⟩; have H8 := Hid.mk (And.intro hN (And.intro hM (More.trans H7.out hM))); clear hN hM hi3)
      | (go_at_call 28; refine (hi4 _ H8.out.2.2).mono ?_; rintro e w9 ⟨r9, rfl, hN, hM⟩; have H9 := Hid.mk (And.intro hN (And.intro hM (More.trans H8.out.2.2 hM))); clear hN hM hi4)
      | (go_at_call 26; refine (his _ _ f2 _ _ _ (H8.out.1.more H9.out.2.1) H9.out.1).mono ?_; rintro e wA ⟨rfl, q, hwA⟩; have HA := Hid.mk (show More w wA by rw [hwA]; exact More.trans H9.out.2.2 (More.drewN _ _)); clear hwA his)
      | (go_at_call 29; refine (hl3 _ HA.out).mono ?_; rintro e wB ⟨rfl, hM⟩; have HB := Hid.mk (More.trans HA.out hM); clear hM hl3)
      | (go_at_call 30; refine (hl4 _ HB.out).mono ?_; rintro e wC ⟨rfl, hM⟩; have HC := Hid.mk (More.trans HB.out hM); clear hM hl4)
      | (go_at_call 7; refine (hlv _).mono ?_; rintro e wD ⟨rfl, hM⟩; have HD := Hid.mk hM; clear hM))
    go_ret
    exact ⟨rfl, More.trans HC.out HD.out⟩
  · obtain ⟨ao, ca, rfl⟩ := ha.shape
    obtain ⟨bo, cb, rfl⟩ := hb.shape
    obtain ⟨co, cc, rfl⟩ := hc.shape
    generalize wrV ts = R at *
    have hR1 : ((R : Int) != 0) = true := by simpa using hR
    have hR2 : ¬ (R : Int) = 0 := by omega
    generalize ts.length = n at *
    generalize ws.length = m at *
    clear ha hb hc hcap hx hxb hR h1 h2 h3
    go_enter Try.func6, Try.ntmps6
    go_wp2_with (first
      | (go_at_call 9; refine hwr.mono ?_; rintro e w1 ⟨rfl, hM⟩; have H1 := Hid.mk hM; clear hM hwr)
      | (go_at_call 7; refine (hlv _).mono ?_; rintro e wD ⟨rfl, hM⟩; have HD := Hid.mk hM; clear hM))
    go_ret
    exact ⟨rfl, More.trans H1.out HD.out⟩
end Go.Proofs.Ytbpegpgbdemomaa
