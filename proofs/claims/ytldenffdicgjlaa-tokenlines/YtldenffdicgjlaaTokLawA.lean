/-
  TokenWords, TokenAll, TokenBack, walked.
-/
import Derived.Test.YtldenffdicgjlaaTokLive
namespace Go.Proofs.Ytldenffdicgjlaa
open Go.RowKit

set_option maxRecDepth 1000000 in
set_option maxHeartbeats 3200000 in
theorem tokenWords (l : List UInt8) (hl : l.length ≤ 9223372036854775807) (c : Nat) (w : World) :
    Calls Try.prog 3 #[.string (bs l), .int .u8 c] w fun e w' => e = .returned (.bool true) ∧ More w w' := by
  have hlv := fun w => live_true w
  have hsz : (bs l).size = l.length := bs_size l
  by_cases hbig : 1000 < l.length
  · have hbig' : (1000 : Int) < l.length := by omega
    generalize l.length = n at *
    go_enter Try.func3, Try.ntmps3
    go_wp2_with (go_at_call 7; refine (hlv _).mono ?_; rintro e w1 ⟨rfl, hm⟩)
    go_ret
    exact ⟨rfl, hm⟩
  have hbig' : ¬ (1000 : Int) < l.length := by omega
  have hwl : (wordsOf l).length ≤ 1000000 := by
    have h1 := wds_len (pcs [] l)
    have h2 := pcs_len l []
    simp at h2
    unfold wordsOf; omega
  have ht := fun w => (callsIn_wide (n := 16)).1 (tk_words 16 (Nat.le_refl _) l (by omega) w)
  have hr := fun w => rf_words l (by omega) w
  have hb1 := fun w => tk_blank c w
  have hb2 := fun w => rf_blank c w
  have hm1 := fun w => tk_mark l w
  have hm2 := fun w => rf_mark l w
  generalize wordsOf l = ws at *
  generalize blkN c = B at *
  generalize isMark l = M at *
  generalize l.length = n at *
  go_enter Try.func3, Try.ntmps3
  go_wp2_with (first
    | (go_at_call 9; refine (ht _).mono ?_; rintro e w1 ⟨v1, rfl, hG1⟩; have H1 := Hid.mk hG1; clear hG1)
    | (go_at_call 10; refine (hr _).mono ?_; rintro e w2 ⟨v2, rfl, hG2⟩; have H2 := Hid.mk hG2; clear hG2)
    | (go_at_call 8; refine (rf_same v1 v2 ws ws w2 (H1.out.rd.more H2.out.more).ard H2.out.rd.ard hwl hwl).mono ?_; rintro e w3 ⟨rfl, m, hw3⟩; rw [decide_eq_true rfl]; have H3 := Hid.mk (show More w w3 by rw [hw3]; exact More.trans H1.out.more (More.trans H2.out.more (More.drewN _ _))); clear hw3)
    | (go_at_call 11; refine (hb1 _).mono ?_; rintro e w' ⟨rfl, hw'⟩; subst w')
    | (go_at_call 12; refine (hb2 _).mono ?_; rintro e w' ⟨rfl, hw'⟩; subst w')
    | (go_at_call 13; refine (hm1 _).mono ?_; rintro e w' ⟨rfl, hw'⟩; subst w')
    | (go_at_call 14; refine (hm2 _).mono ?_; rintro e w' ⟨rfl, hw'⟩; subst w')
    | (go_at_call 7; refine (hlv _).mono ?_; rintro e w4 ⟨rfl, hm4⟩; have H4 := Hid.mk hm4; clear hm4))
  go_ret
  exact ⟨rfl, More.trans H3.out H4.out⟩

set_option maxRecDepth 1000000 in
set_option maxHeartbeats 6400000 in
theorem tokenAll (l : List UInt8) (hl : l.length ≤ 9223372036854775807) (w : World) :
    Calls Try.prog 5 #[.string (bs l)] w fun e w' => e = .returned (.bool true) ∧ More w w' := by
  have hlv := fun w => live_true w
  have hsz : (bs l).size = l.length := bs_size l
  by_cases hbig : 1000 < l.length
  · have hbig' : (1000 : Int) < l.length := by omega
    generalize l.length = n at *
    go_enter Try.func5, Try.ntmps5
    go_wp2_with (go_at_call 7; refine (hlv _).mono ?_; rintro e w1 ⟨rfl, hm⟩)
    go_ret
    exact ⟨rfl, hm⟩
  have hbig' : ¬ (1000 : Int) < l.length := by omega
  have ht := fun w => (callsIn_wide (n := 32)).1 (tk_all 32 (Nat.le_refl _) l (by omega) w)
  have hr := fun w => rf_all l (by omega) w
  have hlen : (allS l).length ≤ 1001 := by
    have h1 := snt_len (lns [] l)
    have h2 := (lns_len l []).2
    unfold allS; omega
  have HR := Hid.mk (show ∀ s ∈ allS l, s ≠ [] ∧ s.length ≤ 1000 ∧ ∀ x ∈ s, rightW x = true from fun s hs => by
    obtain ⟨h1, h2, h3⟩ := allS_right l s hs
    exact ⟨h1, by omega, h3⟩)
  generalize allS l = ss at *
  generalize l.length = n at *
  clear hbig
  obtain ⟨N, hN⟩ : ∃ N, ss.length = N := ⟨_, rfl⟩
  go_enter Try.func5, Try.ntmps5
  go_wp2_with (first
    | (go_at_call 17; refine (ht _).mono ?_; rintro e w1 ⟨v1, rfl, hS1⟩; have H1 := Hid.mk hS1; obtain ⟨a1, c1, rfl⟩ := hS1.shape; rw [hN]; rw [hN] at H1; clear hS1)
    | (go_at_call 18; refine (hr _).mono ?_; rintro e w2 ⟨v2, rfl, hS2⟩; have H2 := Hid.mk hS2; obtain ⟨a2, c2, rfl⟩ := hS2.shape; rw [hN]; rw [hN] at H2; clear hS2))
  have hR1 := H1.out.rd.more H2.out.more
  have hR2 := H2.out.rd
  by_cases h0 : N = 0
  · subst h0
    have HM := Hid.mk (More.trans H1.out.more H2.out.more)
    clear hR1 hR2 H1 H2 HR hr ht
    go_loop [5] (fun k => k = .int .i64 0) (fun _ => 0)
    case atStart => rfl
    case round =>
      obtain rfl := hrel
      go_wp2_with (go_at_call 7; refine (hlv _).mono ?_; rintro e w4 ⟨rfl, hm4⟩; have H4 := Hid.mk hm4; clear hm4)
      go_ret
      exact ⟨rfl, More.trans HM.out H4.out⟩
  · obtain ⟨g1, cp1, e1, cA⟩ := hR1.form (by omega)
    obtain ⟨g2, cp2, e2, cB⟩ := hR2.form (by omega)
    rw [hN] at e1 e2 cA cB
    obtain ⟨rfl, _, rfl⟩ := Value.slice.inj e1
    obtain ⟨rfl, _, rfl⟩ := Value.slice.inj e2
    have HM := Hid.mk (More.trans H1.out.more H2.out.more)
    have HC := Hid.mk (And.intro cA cB)
    clear hR1 hR2 H1 H2 e1 e2 cA cB hr ht
    go_loopw [5] (fun k wr => ∃ i : Nat, i ≤ N ∧ k = .int .i64 i ∧ ∃ m, wr = w2.drewN m) (fun k _ => N - (intOf k).toNat)
    case atStart => exact ⟨0, by omega, rfl, 0, rfl⟩
    case round =>
      obtain ⟨i, hi2, rfl, m, hwr⟩ := hrel
      by_cases hlt : i < N
      · obtain ⟨u1, cu1, r1⟩ := HC.out.1 i hlt
        obtain ⟨u2, cu2, r2⟩ := HC.out.2 i hlt
        have hmem : ss.getD i [] ∈ ss := by rw [List.getD_eq_getElem?_getD, List.getElem?_eq_getElem (by omega)]; simp
        obtain ⟨hs0, hsl, hsr⟩ := HR.out _ hmem
        obtain ⟨s, hs⟩ : ∃ s, ss.getD i [] = s := ⟨_, rfl⟩
        rw [hs] at r1 r2 hs0 hsl hsr
        clear hmem hs
        have c1 : wr.cell? ⟨g1, i, none⟩ = some u1 := by rw [hwr]; exact cu1
        have c2 : wr.cell? ⟨g2, i, none⟩ = some u2 := by rw [hwr]; exact cu2
        have hsame : ∀ k, Calls Try.prog 8 #[u1, u2] (wr.drewN k) fun e w' => e = .returned (.bool true) ∧ ∃ m, w' = (wr.drewN k).drewN m := fun k => by
          have h := rf_same u1 u2 s s (wr.drewN k) (by rw [hwr]; exact ((r1.drawn m).drawn k).ard) (by rw [hwr]; exact ((r2.drawn m).drawn k).ard) (by omega) (by omega)
          rw [decide_eq_true rfl] at h
          exact h
        obtain ⟨h1, d1, rfl, hcell⟩ : ∃ g cap, u1 = .slice (some ⟨g, 0, none⟩) s.length cap ∧ ∀ k, k < s.length → w2.cell? ⟨g, k, none⟩ = some (.string (bs (s.getD k []))) := by
          rcases r1.form with ⟨h, _⟩ | ⟨g, cap, h1, _, h2⟩
          · exact absurd h hs0
          · exact ⟨g, cap, h1, h2⟩
        have hK0 : 0 < s.length := List.length_pos_iff.2 hs0
        have HX := Hid.mk (show ∀ j, j < s.length → w2.cell? ⟨h1, j, none⟩ = some (.string (bs (s.getD j []))) ∧ rightW (s.getD j []) = true from fun j hj => ⟨hcell j hj, hsr _ (by rw [List.getD_eq_getElem?_getD, List.getElem?_eq_getElem hj]; simp)⟩)
        have HW := Hid.mk hwr
        obtain ⟨K, hK⟩ : ∃ K, s.length = K := ⟨_, rfl⟩
        rw [hK] at hK0 HX hsl c1 hsame
        have hKi : ((K : Int) == 0) = false := by simp; omega
        have hKi2 : ¬ ((K : Int) = 0) := by omega
        clear hwr r1 r2 cu1 cu2 hcell hs0 hsr hK
        go_wp2_with fail
        go_quiet ((go_at_call 8; exact Calls.quiet_of (hsame _)))
        have HW2 := Hid.mk (show wr.drewN nq = w2.drewN (m + nq) by rw [HW.out]; exact drewN_two _ _ _)
        obtain ⟨wq, hwq⟩ : ∃ wq, wr.drewN nq = wq := ⟨_, rfl⟩
        rw [hwq] at HW2 ⊢
        have c1q : wq.cell? ⟨g1, i, none⟩ = some (.slice (some ⟨h1, 0, none⟩) K d1) := by rw [← hwq]; exact c1
        have HXq := Hid.mk (show ∀ j, j < K → wq.cell? ⟨h1, j, none⟩ = some (.string (bs (s.getD j []))) ∧ rightW (s.getD j []) = true from fun j hj => ⟨by rw [HW2.out]; exact (HX.out j hj).1, (HX.out j hj).2⟩)
        clear hwq c1 c2 hsame HX HW
        go_wp2
        go_loop [6] (fun k => ∃ j : Nat, j ≤ K ∧ k = .int .i64 j) (fun k => K - (intOf k).toNat)
        case atStart => exact ⟨0, by omega, rfl⟩
        case round =>
          obtain ⟨j, hj, rfl⟩ := hrel
          by_cases hjK : j < K
          · obtain ⟨cx, hx⟩ := HXq.out j hjK
            obtain ⟨x, hxe⟩ : ∃ x, s.getD j [] = x := ⟨_, rfl⟩
            rw [hxe] at cx hx
            clear hxe
            have hri := fun w => rf_right x (by have := (right_parts hx).2.2.2; omega) w
            rw [hx] at hri
            clear hx
            go_wp2_with (go_at_call 19; refine (hri _).mono ?_; rintro e w' ⟨rfl, hw'⟩; subst w')
            exact ⟨⟨j + 1, by omega, by go_num⟩, by simp [intOf]; omega⟩
          · obtain rfl : j = K := by omega
            go_wp2
            go_roundw
            case rel => exact ⟨i + 1, by omega, by go_num, _, HW2.out⟩
            case measure => simp [intOf]; omega
      · obtain rfl : i = N := by omega
        have HW := Hid.mk (show More w wr by rw [hwr]; exact More.trans HM.out (More.drewN _ _))
        clear hwr
        go_wp2_with (go_at_call 7; refine (hlv _).mono ?_; rintro e w4 ⟨rfl, hm4⟩; have H4 := Hid.mk hm4; clear hm4)
        go_ret
        exact ⟨rfl, More.trans HW.out H4.out⟩

set_option maxRecDepth 1000000 in
set_option maxHeartbeats 6400000 in
theorem tokenBack (v : Value) (ts : List (List UInt8)) (w : World) (h : ARd w v ts) (hsz : ∀ x ∈ ts, x.length ≤ 9223372036854775807) (hn : ts.length ≤ 9223372036854775807) :
    Calls Try.prog 6 #[v] w fun e w' => e = .returned (.bool true) ∧ More w w' := by
  have hlv := fun w => live_true w
  by_cases hbig : 60 < ts.length
  · obtain ⟨ao, cap, rfl⟩ := h.shape
    have hbig' : (60 : Int) < ts.length := by omega
    generalize ts.length = n at *
    clear h
    go_enter Try.func6, Try.ntmps6
    go_wp2_with (go_at_call 7; refine (hlv _).mono ?_; rintro e w1 ⟨rfl, hm⟩)
    go_ret
    exact ⟨rfl, hm⟩
  have hbig' : ¬ (60 : Int) < ts.length := by omega
  have HJ := Hid.mk (show (∀ j, j < ts.length → rightW (ts.getD j []) = true) → Calls Try.prog 20 #[v] w (fun e w' => e = .returned (.string (bs (jn (fun j => ts.getD j []) ts.length))) ∧ w' = w) ∧ ∀ w, Calls Try.prog 9 #[.string (bs (jn (fun j => ts.getD j []) ts.length))] w fun e w' => ∃ u, e = .returned u ∧ Grow w u ts w' from fun hr => by
    have hb : ∀ j, j < ts.length → (ts.getD j []).length ≤ 255 := fun j hj => (right_parts (hr j hj)).2.2.2
    refine ⟨rf_join v ts w h (by omega) hb, fun w => ?_⟩
    have hl := jn_len (fun j => ts.getD j []) 255 ts.length hb
    have hw := (callsIn_wide (n := 16)).1 (tk_words 16 (Nat.le_refl _) (jn (fun j => ts.getD j []) ts.length) (by omega) w)
    rw [words_jn _ _ hr, list_of] at hw
    exact hw)
  obtain ⟨T, hT⟩ : ∃ T, jn (fun j => ts.getD j []) ts.length = T := ⟨_, rfl⟩
  rw [hT] at HJ
  have HH := Hid.mk h
  have HS := Hid.mk (show ∀ j, j < ts.length → (ts.getD j []).length ≤ 9223372036854775807 from fun j hj => hsz _ (by rw [List.getD_eq_getElem?_getD, List.getElem?_eq_getElem hj]; simp))
  rcases h with ⟨h0, ao, cap, rfl⟩ | ⟨g, o, cap, rfl, hcell⟩
  · obtain ⟨hj, hw⟩ := HJ.out (by rw [h0]; intro j hj; simp at hj)
    clear hsz hn hbig hbig'
    go_enter Try.func6, Try.ntmps6
    go_wp2
    go_loop [3] (fun k => k = .int .i64 0) (fun _ => 0)
    case atStart => rfl
    case round =>
      obtain rfl := hrel
      go_wp2_with (first
        | (go_at_call 20; refine hj.mono ?_; rintro e w' ⟨rfl, hw'⟩; subst w')
        | (go_at_call 9; refine (hw _).mono ?_; rintro e w1 ⟨u, rfl, hG⟩; have H1 := Hid.mk hG; clear hG)
        | (go_at_call 8; refine (rf_same u _ ts ts w1 H1.out.rd.ard (HH.out.more H1.out.more) (by rw [h0]; decide) (by rw [h0]; decide)).mono ?_; rintro e w3 ⟨rfl, m, hw3⟩; rw [decide_eq_true rfl]; have H3 := Hid.mk (show More w w3 by rw [hw3]; exact More.trans H1.out.more (More.drewN _ _)); clear hw3)
        | (go_at_call 7; refine (hlv _).mono ?_; rintro e w4 ⟨rfl, hm4⟩; have H4 := Hid.mk hm4; clear hm4))
      go_ret
      exact ⟨rfl, More.trans H3.out H4.out⟩
  · have HC := Hid.mk hcell
    obtain ⟨n, hnn⟩ : ∃ n, ts.length = n := ⟨_, rfl⟩
    rw [hnn] at HC HS HJ hn hbig hbig' HH ⊢
    clear hcell hsz hT
    go_enter Try.func6, Try.ntmps6
    go_wp2
    go_loop [3] (fun k => ∃ i : Nat, i ≤ n ∧ k = .int .i64 i ∧ ∀ j, j < i → rightW (ts.getD j []) = true) (fun k => n - (intOf k).toNat)
    case atStart => exact ⟨0, by omega, rfl, fun j hj => by omega⟩
    case round =>
      obtain ⟨i, hi2, rfl, hright⟩ := hrel
      have HR := Hid.mk hright
      clear hright
      by_cases hlt : i < n
      · have cx := HC.out i hlt
        have hri := fun w => rf_right (ts.getD i []) (HS.out i hlt) w
        cases hx : rightW (ts.getD i []) with
        | true =>
          rw [hx] at hri
          have HN := Hid.mk (show ∀ j, j < i + 1 → rightW (ts.getD j []) = true from fun j hj => by
            by_cases hji : j = i
            · subst hji; exact hx
            · exact HR.out j (by omega))
          clear hx
          generalize ts.getD i [] = x at *
          go_wp2_with (go_at_call 19; refine (hri _).mono ?_; rintro e w' ⟨rfl, hw'⟩; subst w')
          exact ⟨⟨i + 1, by omega, by go_num, HN.out⟩, by simp [intOf]; omega⟩
        | false =>
          rw [hx] at hri
          clear hx
          generalize ts.getD i [] = x at *
          go_wp2_with (first
            | (go_at_call 19; refine (hri _).mono ?_; rintro e w' ⟨rfl, hw'⟩; subst w')
            | (go_at_call 7; refine (hlv _).mono ?_; rintro e w4 ⟨rfl, hm4⟩; have H4 := Hid.mk hm4; clear hm4))
          go_ret
          exact ⟨rfl, H4.out⟩
      · obtain rfl : i = n := by omega
        obtain ⟨hj, hw⟩ := HJ.out HR.out
        go_wp2_with (first
          | (go_at_call 20; refine hj.mono ?_; rintro e w' ⟨rfl, hw'⟩; subst w')
          | (go_at_call 9; refine (hw _).mono ?_; rintro e w1 ⟨u, rfl, hG⟩; have H1 := Hid.mk hG; clear hG)
          | (go_at_call 8; refine (rf_same u _ ts ts w1 H1.out.rd.ard (HH.out.more H1.out.more) (by omega) (by omega)).mono ?_; rintro e w3 ⟨rfl, m, hw3⟩; rw [decide_eq_true rfl]; have H3 := Hid.mk (show More w w3 by rw [hw3]; exact More.trans H1.out.more (More.drewN _ _)); clear hw3)
          | (go_at_call 7; refine (hlv _).mono ?_; rintro e w4 ⟨rfl, hm4⟩; have H4 := Hid.mk hm4; clear hm4))
        go_ret
        exact ⟨rfl, More.trans H3.out H4.out⟩
end Go.Proofs.Ytldenffdicgjlaa
