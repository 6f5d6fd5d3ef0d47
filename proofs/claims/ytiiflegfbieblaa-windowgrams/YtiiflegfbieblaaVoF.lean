/-
  vocab: Of.
-/
import Derived.Test.YtiiflegfbieblaaVoE
import Derived.Test.YtiiflegfbieblaaVoShelf
namespace Go.Proofs.Ytiiflegfbieblaa
open Go.RowKit Go.Shelf
attribute [local go_sem] Oper.semAt_some vo_field

theorem map_bs_get {ts : List (List UInt8)} {j : Nat} (h : j < ts.length) : (ts.map bs).getD j ByteArray.empty = bs (ts.getD j []) := by
  simp [List.getD, List.getElem?_eq_getElem h]
theorem map_bs_inj {a b : List (List UInt8)} : a.map bs = b.map bs ↔ a = b :=
  ⟨fun h => by
    refine lists_same (by have := congrArg List.length h; simpa using this) fun j hj => ?_
    have hl : a.length = b.length := by have := congrArg List.length h; simpa using this
    have h1 := map_bs_get (ts := a) hj
    have h2 := map_bs_get (ts := b) (j := j) (by omega)
    rw [h, h2] at h1
    exact (bs_inj h1).symm, fun h => by rw [h]⟩
/-- slices.Equal, of lists that are not empty. -/
theorem eq_lists (w : World) (g o c : Nat) (u : Value) (ts us : List (List UInt8)) (ha : ARd w (.slice (some ⟨g, o, none⟩) ts.length c) ts) (hu : SRd w u us) (h0 : us ≠ []) (hn : ts.length ≤ 1000000) (hn2 : us.length ≤ 1000000) :
    Calls Try.prog 30 #[.slice (some ⟨g, o, none⟩) ts.length c, u] w fun e w' => e = .returned (.bool (decide (ts = us))) ∧ More w w' := by
  rcases hu.form with ⟨h, _⟩ | ⟨g2, c2, rfl, _, h2⟩
  · exact absurd h h0
  have hc1 : ∀ j, j < (ts.map bs).length → w.cell? ⟨g, o + j, none⟩ = some (.string ((ts.map bs).getD j ByteArray.empty)) := fun j hj => by
    rw [List.length_map] at hj
    rw [map_bs_get hj]
    rcases ha with ⟨h, _⟩ | ⟨g', o', ca, h3, h4⟩
    · rw [h] at hj; simp at hj
    · simp only [Value.slice.injEq, Option.some.injEq, Addr.mk.injEq] at h3
      obtain ⟨⟨rfl, rfl, _⟩, _, rfl⟩ := h3
      exact h4 j hj
  have hc2 : ∀ j, j < (us.map bs).length → w.cell? ⟨g2, 0 + j, none⟩ = some (.string ((us.map bs).getD j ByteArray.empty)) := fun j hj => by
    rw [List.length_map] at hj
    rw [map_bs_get hj, Nat.zero_add]
    exact h2 j hj
  have h := sh_equal g o ts.length c g2 0 us.length c2 (ts.map bs) (us.map bs) w (by simp) (by simp) (by omega) (by omega) hc1 hc2
  refine h.mono ?_
  rintro e w' ⟨rfl, q, rfl⟩
  refine ⟨ret_bool ?_, More.drewN _ _⟩
  rw [show (ts.map bs).take ts.length = ts.map bs by rw [← List.length_map (f := bs), List.take_length], show (us.map bs).take us.length = us.map bs by rw [← List.length_map (f := bs), List.take_length]]
  by_cases he : ts = us
  · rw [decide_eq_true he, decide_eq_true (map_bs_inj.2 he)]
  · rw [decide_eq_false he, decide_eq_false (fun hh => he (map_bs_inj.1 hh))]

/-- What Of tells. -/
def OfOr (w w' : World) (ts : List (List UInt8)) (p : Option Addr) : Prop :=
  (wrV ts ≠ 0 ∧ p = none) ∨ (wrV ts = 0 ∧ ∃ v D, p = some ⟨v, 0, none⟩ ∧ Voc w' D v ts ∧ (∀ j, D j → w.heap.size ≤ j) ∧ w.heap.size ≤ v)

set_option maxRecDepth 1000000 in
set_option maxHeartbeats 4000000 in
theorem vo_Of (a : Value) (ts : List (List UInt8)) (w : World) (ha : ARd w a ts) (hcap : ∀ ao n cap, a = .slice ao n cap → n ≤ cap) (hn : ts.length ≤ 65536) (hx : ∀ x ∈ ts, x.length ≤ 281474976710656) :
    Calls Try.prog 9 #[a] w fun e w' => ∃ p, e = .returned (.tuple #[.pointer p, .int .i64 (wrV ts)]) ∧ More w w' ∧ OfOr w w' ts p := by
  by_cases h3 : ts.length < 3
  · obtain ⟨ao, ca, rfl⟩ := ha.shape
    have HW := Hid.mk (wr_short h3)
    have h3' : (ts.length : Int) < 3 := by omega
    have HO := Hid.mk (fun (w' : World) (h : wrV ts = 1) => (show OfOr w w' ts none from .inl ⟨by rw [h]; decide, rfl⟩))
    generalize wrV ts = R at *
    generalize ts.length = n at *
    clear ha hx hcap
    go_enter Try.func9, Try.ntmps9
    go_wp2_with (first
      | (go_at_call 28; refine (vo_New _).mono ?_; rintro e w1 ⟨v, D, rfl, hV, hM, hD, hv⟩; have H1 := Hid.mk (And.intro hV hM); clear hV hM hD hv)
      | (go_at_call 29; refine (vo_Words v _ D mk3 H1.out.1 (by decide)).mono ?_; rintro e w2 ⟨u, rfl, hG⟩; obtain ⟨au, cu, rfl⟩ : ∃ ao cap, u = .slice ao 3 cap := hG.shape; have H2 := Hid.mk hG.more; clear hG))
    go_ret2
    exact ⟨none, by rw [HW.out]; rfl, More.trans H1.out.2 H2.out, HO.out _ HW.out⟩
  rcases ha with ⟨h1, _⟩ | ⟨g, o, cap, rfl, hc⟩
  · rw [h1] at h3; simp at h3
  have hA : ARd w (.slice (some ⟨g, o, none⟩) ts.length cap) ts := .inr ⟨g, o, cap, rfl, hc⟩
  have h3l : (ts.take 3).length = 3 := by rw [List.length_take]; omega
  have heq := fun (u : Value) (W : World) (hm : More w W) (hg : SRd W u mk3) (c : Nat) => eq_lists W g o c u (ts.take 3) mk3 (by rw [h3l]; exact (hA.take rfl (by omega) c).more hm) hg (by decide) (by omega) (by decide)
  rw [h3l] at heq
  have hnc : ts.length ≤ cap := hcap _ _ _ rfl
  obtain ⟨n, hnn⟩ : ∃ n, ts.length = n := ⟨_, rfl⟩
  rw [hnn] at hc hnc h3 hn ⊢
  have h3d : ¬ (n : Int) < 3 := by omega
  have hc3 : (3 : Int) ≤ cap := by omega
  have hn3 : (3 : Int) ≤ n := by omega
  have hbig : ¬ (65536 : Int) < n := by omega
  by_cases hh : ts.take 3 = mk3
  · rw [decide_eq_true hh] at heq
    have HW := Hid.mk (And.intro (fun i (hi : i < ts.length) hb => wr_bad hh hi hb) (wr_ok hh))
    rw [hnn] at HW
    by_cases hn3e : n = 3
    · subst hn3e
      have hts : ts = mk3 := by rw [← hh, ← hnn, List.take_length]
      have HR := Hid.mk (HW.out.2 fun i hi => good_small hi)
      have HO := Hid.mk (show ∀ (w' : World) (v : Nat) (D : Nat → Prop), Voc w' D v mk3 → (∀ j, D j → w.heap.size ≤ j) → w.heap.size ≤ v → OfOr w w' ts (some ⟨v, 0, none⟩) from fun w' v D h1 h2 h3 => .inr ⟨HR.out, v, D, rfl, by rw [hts]; exact h1, h2, h3⟩)
      generalize wrV ts = R at *
      clear hts hh HW hA hx h3l hnn hcap hc hn3 hn h3 hnc h3d hbig
      go_enter Try.func9, Try.ntmps9
      go_wp2_with (first
        | (go_at_call 28; refine (vo_New _).mono ?_; rintro e w1 ⟨v, D, rfl, hV, hM, hD, hv⟩; have H1 := Hid.mk (And.intro hV (And.intro hM (And.intro hD hv))); clear hV hM hD hv)
        | (go_at_call 29; refine (vo_Words v _ D mk3 H1.out.1 (by decide)).mono ?_; rintro e w2 ⟨u, rfl, hG⟩; have hM2 := More.trans H1.out.2.1 hG.more; have heq2 := heq u w2 hM2 hG.rd; obtain ⟨au, cu, rfl⟩ : ∃ ao cap, u = .slice ao 3 cap := hG.shape; have H2 := Hid.mk (And.intro hM2 hG.more); clear hG hM2 heq)
        | (go_at_call 30; refine (heq2 _).mono ?_; rintro e w3 ⟨rfl, hm3⟩; have H3 := Hid.mk hm3; clear hm3 heq2))
      all_goals
        go_loopw [35] (fun k wr => k = .int .i64 0 ∧ wr = w3) (fun _ _ => 0)
        case atStart => exact ⟨rfl, rfl⟩
        case round =>
          obtain ⟨rfl, rfl⟩ := hrel
          go_wp2
          go_ret2
          exact ⟨_, by rw [HR.out]; rfl, More.trans H2.out.1 H3.out, HO.out _ _ _ (H1.out.1.more (More.trans H2.out.2 H3.out)) H1.out.2.2.1 H1.out.2.2.2⟩
    · have hce : ¬ cap = 3 := by omega
      have HC := Hid.mk (And.intro hc (fun i (hi : i < n) => (show (ts.getD i []).length ≤ 281474976710656 from hx _ (getD_mem (by omega)))))
      have HO := Hid.mk (And.intro (show ∀ (w' : World), wrV ts = 10 → OfOr w w' ts none from fun w' h => .inl ⟨by rw [h]; decide, rfl⟩) (show ∀ (w' : World) (v : Nat) (D : Nat → Prop), wrV ts = 0 → Voc w' D v ts → (∀ j, D j → w.heap.size ≤ j) → w.heap.size ≤ v → OfOr w w' ts (some ⟨v, 0, none⟩) from fun w' v D h0 h1 h2 h3 => .inr ⟨h0, v, D, rfl, h1, h2, h3⟩))
      have HT := Hid.mk (And.intro (fun i (hi : i < n) => (show ts.getD i [] ∉ ts.take i → putN (ts.take i) (ts.getD i []) = ts.take (i + 1) from put_next (by omega))) (And.intro (show ts.take n = ts by rw [← hnn, List.take_length]) hh))
      have HL := Hid.mk (fun i => show (ts.take i).length ≤ 100000 by have := List.length_take_le i ts; have := List.length_take_le' i ts; omega)
      generalize wrV ts = R at *
      clear hh hA hx h3l hnn hcap hc h3 h3d
      go_enter Try.func9, Try.ntmps9
      go_wp2_with (first
        | (go_at_call 28; refine (vo_New _).mono ?_; rintro e w1 ⟨v, D, rfl, hV, hM, hD, hv⟩; have H1 := Hid.mk (And.intro hV (And.intro hM (And.intro hD hv))); clear hV hM hD hv)
        | (go_at_call 29; refine (vo_Words v _ D mk3 H1.out.1 (by decide)).mono ?_; rintro e w2 ⟨u, rfl, hG⟩; have hM2 := More.trans H1.out.2.1 hG.more; have heq2 := heq u w2 hM2 hG.rd; obtain ⟨au, cu, rfl⟩ : ∃ ao cap, u = .slice ao 3 cap := hG.shape; have H2 := Hid.mk (And.intro hM2 hG.more); clear hG hM2 heq)
        | (go_at_call 30; refine (heq2 _).mono ?_; rintro e w3 ⟨rfl, hm3⟩; have H3 := Hid.mk hm3; clear hm3 heq2))
      obtain ⟨hv0, b, hb0, hT0⟩ := H1.out.1.more (More.trans H2.out.2 H3.out)
      have H4 := Hid.mk (And.intro hv0 (And.intro hb0 (And.intro hT0 (More.trans H2.out.1 H3.out))))
      have HvS := Hid.mk H1.out.2.2.2
      clear hv0 hb0 hT0
      go_loopw [35] (fun k wr => ∃ (r : Nat) (D : Nat → Prop), r ≤ n - 3 ∧ k = .int .i64 r ∧ (∀ i, i < r + 3 → goodB ts i = true) ∧ ¬ D v ∧ wr.heap[v]? = some (.cells #[.pointer (some ⟨b, 0, none⟩)] 62 (0, 0)) ∧ Tab wr D b (ts.take (r + 3)) ∧ More w wr ∧ ∀ j, D j → w.heap.size ≤ j) (fun k _ => n - 3 - (intOf k).toNat)
      case atStart => exact ⟨0, D, by omega, rfl, fun i hi => good_small hi, H4.out.1, H4.out.2.1, by rw [Nat.zero_add, HT.out.2.2]; exact H4.out.2.2.1, H4.out.2.2.2, H1.out.2.2.1⟩
      case round =>
        obtain ⟨r, Dr, hr, rfl, hgd, hnv, hb, hT, hM, hD⟩ := hrel
        clear H4 H3 H2 H1
        by_cases hlt : r < n - 3
        · have hlt' : (r : Int) < ((n - 3 : Nat) : Int) := by omega
          have c1 : wr.cell? ⟨g, o + 3 + r, none⟩ = some (.string (bs (ts.getD (r + 3) []))) := by
            have h := HC.out.1 (r + 3) (by omega)
            rw [show o + 3 + r = o + (r + 3) from by omega]
            exact (hM.cell (World.block_lt_of_cell? _ _ h)).trans h
          have cv := (wcells1 hb).1
          have hxl := HC.out.2 (r + 3) (by omega)
          have hB1 := HW.out.1 (r + 3) (by omega)
          have HG := Hid.mk (good_new (l := ts) (i := r + 3) (by omega))
          have hP := HT.out.1 (r + 3) (by omega)
          obtain ⟨x, hxe⟩ : ∃ x, ts.getD (r + 3) [] = x := ⟨_, rfl⟩
          rw [hxe] at c1 hxl HG hP
          have hrt := fun w => vo_right x (by omega) w
          have hha := vo_Has v wr Dr (ts.take (r + 3)) x ⟨hnv, b, hb, hT⟩ (HL.out _) hxl
          have HH := Hid.mk (And.intro hnv (And.intro hb (And.intro hT (And.intro hM hD))))
          have HS := Hid.mk hgd
          clear hgd hnv hb hT hM hD hxe
          cases hR : rightW x with
          | false =>
            rw [hR] at hrt HG
            have HB := Hid.mk (hB1 HG.out)
            clear hB1 HG hP hha hR
            go_wp2_with (go_at_call 31; refine (hrt _).mono ?_; rintro e w' ⟨rfl, hw'⟩; subst w')
            go_ret2
            exact ⟨none, by rw [HB.out]; rfl, HH.out.2.2.2.1, HO.out.1 _ HB.out⟩
          | true =>
            rw [hR] at hrt HG
            rw [Bool.true_and] at HG
            by_cases hF : fnd (ts.take (r + 3)) x < 0
            · have hP2 := Hid.mk (hP (fnd_neg hF))
              rw [decide_eq_true (fnd_neg hF)] at HG
              rw [show decide (0 ≤ fnd (ts.take (r + 3)) x) = false from decide_eq_false (by omega)] at hha
              have hpu := fun w2 (hm2 : More wr w2) => callsIn_wide.1 (in_Put 16 (Nat.le_refl _) w2 Dr b (ts.take (r + 3)) x (HH.out.2.2.1.more hm2) (HL.out _) hxl)
              have HA := Hid.mk hpu
              clear hB1 hR hP hF hpu
              go_wp2_with (first
                | (go_at_call 31; refine (hrt _).mono ?_; rintro e w' ⟨rfl, hw'⟩; subst w')
                | (go_at_call 32; refine hha.mono ?_; rintro e w2 ⟨rfl, hm2⟩; have cv2 := (wcells1 (hm2.at HH.out.2.1)).1; have hpu := HA.out w2 hm2; have HM2 := Hid.mk hm2; clear hm2 hha)
                | (go_at_call 33; refine hpu.mono ?_; rintro e w3 ⟨rfl, D', hT3, hO3, hD3⟩; rw [hP2.out] at hT3; have H3 := Hid.mk (And.intro hT3 (And.intro hO3 hD3)); clear hT3 hO3 hD3 hpu))
              go_roundw
              case rel =>
                have hlv := lt_of_block HH.out.2.1
                have hO := Off.more_after HM2.out H3.out.2.1
                have hD' : ∀ j, D' j → Dr j ∨ wr.heap.size ≤ j := fun j hj => (H3.out.2.2 j hj).imp id (Nat.le_trans HM2.out.size)
                exact ⟨r + 1, D', by omega, by go_num, fun i hi => by
                  by_cases hir : i = r + 3
                  · subst hir; exact HG.out
                  · exact HS.out i (by omega), fun h => (hD' v h).elim HH.out.1 (fun h => by omega), (hO.block v hlv HH.out.1).trans HH.out.2.1, by rw [show r + 1 + 3 = r + 3 + 1 from by omega]; exact H3.out.1, More.trans' HH.out.2.2.2.1 hO HH.out.2.2.2.2, fun j hj => (hD' j hj).elim (HH.out.2.2.2.2 j) (Nat.le_trans HH.out.2.2.2.1.size)⟩
              case measure => simp [intOf]; omega
            · rw [decide_eq_false (fun h => h (fnd_pos hF))] at HG
              have HB := Hid.mk (hB1 HG.out)
              rw [show decide (0 ≤ fnd (ts.take (r + 3)) x) = true from decide_eq_true (by omega)] at hha
              clear hB1 HG hR hP hF
              go_wp2_with (first
                | (go_at_call 31; refine (hrt _).mono ?_; rintro e w' ⟨rfl, hw'⟩; subst w')
                | (go_at_call 32; refine hha.mono ?_; rintro e w2 ⟨rfl, hm2⟩; have HM2 := Hid.mk hm2; clear hm2 hha))
              go_ret2
              exact ⟨none, by rw [HB.out]; rfl, More.trans HH.out.2.2.2.1 HM2.out, HO.out.1 _ HB.out⟩
        · obtain rfl : r = n - 3 := by omega
          have HB := Hid.mk (HW.out.2 fun i hi => hgd i (by omega))
          have HV := Hid.mk (HO.out.2 wr v Dr HB.out ⟨hnv, b, hb, by have h := hT; rw [show n - 3 + 3 = n from by omega, HT.out.2.1] at h; exact h⟩ hD)
          have HM := Hid.mk hM
          clear hgd hnv hb hT hM hD
          go_wp2
          go_ret2
          exact ⟨_, by rw [HB.out]; rfl, HM.out, HV.out HvS.out⟩
  · rw [decide_eq_false hh] at heq
    have HW := Hid.mk (wr_head hh)
    have HO := Hid.mk (fun (w' : World) (h : wrV ts = 1) => (show OfOr w w' ts none from .inl ⟨by rw [h]; decide, rfl⟩))
    generalize wrV ts = R at *
    clear hh hA hx h3l hnn hcap hc
    go_enter Try.func9, Try.ntmps9
    go_wp2_with (first
      | (go_at_call 28; refine (vo_New _).mono ?_; rintro e w1 ⟨v, D, rfl, hV, hM, hD, hv⟩; have H1 := Hid.mk (And.intro hV hM); clear hV hM hD hv)
      | (go_at_call 29; refine (vo_Words v _ D mk3 H1.out.1 (by decide)).mono ?_; rintro e w2 ⟨u, rfl, hG⟩; have hM2 := More.trans H1.out.2 hG.more; have heq2 := heq u w2 hM2 hG.rd; obtain ⟨au, cu, rfl⟩ : ∃ ao cap, u = .slice ao 3 cap := hG.shape; have H2 := Hid.mk hM2; clear hG hM2 heq)
      | (go_at_call 30; refine (heq2 _).mono ?_; rintro e w3 ⟨rfl, hm3⟩; have H3 := Hid.mk hm3; clear hm3 heq2))
    go_ret2
    exact ⟨none, by rw [HW.out]; rfl, More.trans H2.out H3.out, HO.out _ HW.out⟩
end Go.Proofs.Ytiiflegfbieblaa
