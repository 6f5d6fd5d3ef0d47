/-
  token.Words, walked.
-/
import Derived.Test.YtiiflegfbieblaaTokP
import Derived.Test.YtiiflegfbieblaaRangeApp
import Derived.Test.YtiiflegfbieblaaAnyDetS
namespace Go.Proofs.Ytiiflegfbieblaa
open Go.RowKit Go.Shelf
attribute [local go_sem] Oper.semAt_some

/-- Between two rounds of Words. -/
structure WoI (w : World) (l : List UInt8) (pre : List (List UInt8)) (E : Nat → Prop) (V : World) : Prop where
  row : BoxRow 22 9 w.heap.size (w.heap.size + 1 + 1) (strs (wds pre)) E V
  bs : Boxed V (w.heap.size + 1) 9 (.string (bs l))
  more : More w V
  low : ∀ j, j < w.heap.size + 1 + 1 → E j
  sz : w.heap.size + 1 + 1 ≤ V.heap.size
theorem WoI.stay {w : World} {l : List UInt8} {pre : List (List UInt8)} {E : Nat → Prop} {V V' : World} (h : WoI w l pre E V) (st : Stay E V V') : WoI w l pre E V' :=
  ⟨h.row.stay st (h.low _ (by omega)), st.boxed h.bs (h.low _ (by omega)), Below.trans h.more (st.below fun j hj => h.low j (by omega)), h.low, Nat.le_trans h.sz st.size⟩
theorem pre_next {L pre : List (List UInt8)} {x : List UInt8} (h : pre ++ [x] <+: L) : pre.length < L.length := by
  have := h.length_le; simp at this; omega

set_option maxRecDepth 1000000 in
set_option maxHeartbeats 4000000 in
theorem tk_words (n : Nat) (hn : 16 ≤ n) (l : List UInt8) (hl : l.length ≤ 1000000) (w : World) :
    CallsIn Fence.wide n Try.prog 60 #[.string (bs l)] w fun e w' => ∃ v, e = .returned v ∧ Grow w v (wordsOf l) w' := by
  have h1 : 1 ≤ n := by omega
  obtain ⟨i0, hi, hz0, hz1, hz2⟩ := info_parts Try.infoStr
  have hNl : (pcs [] l).length ≤ 1000000 := by have := pcs_len l []; simp at this; omega
  have hseq := pieces_in (n - 1) (by omega) (w.heap.size + 1) w.heap.size l hl w
  obtain ⟨wa, hwa⟩ : ∃ wa, w.alloc (.cells #[.slice none 0 0] 22) = wa := ⟨_, rfl⟩
  have ba : Boxed wa w.heap.size 22 (.slice none 0 0) := by rw [← hwa]; exact Boxed.new _ _ _
  have hsa : wa.heap.size = w.heap.size + 1 := by rw [← hwa]; simp
  have hma : More w wa := by rw [← hwa]; exact more_alloc _ _
  have HH := Hid.mk (And.intro ba hma)
  clear ba hma
  refine callsIn_of_wp_marks Try.func60 rfl trivial ?_ rfl
  simp only [Try.ntmps60, List.size_toArray, List.length_cons, List.length_nil, Nat.reduceAdd, Nat.reduceSub, Array.replicate_succ, Array.replicate_zero, List.push_toArray, List.append_toArray, List.nil_append, List.cons_append]
  gi_wp2_with (refine ⟨trivial, ?_⟩; gi_at_call 72; refine (pieces_call _ _ _).mono ?_; rintro e w' ⟨rfl, hw'⟩; subst w')
  obtain ⟨w1, hw1⟩ : ∃ w1, wa.alloc (.cells #[.string (bs l)] 9) = w1 := ⟨_, rfl⟩
  have hm1 : More wa w1 := by rw [← hw1]; exact more_alloc _ _
  have hs1 : w1.heap.size = w.heap.size + 1 + 1 := by rw [← hw1]; simp [hsa]
  have b5 : Boxed w1 (w.heap.size + 1) 9 (.string (bs l)) := by rw [← hw1, ← hsa]; exact Boxed.new _ _ _
  have hA1 := More.trans HH.out.2 hm1
  have st1 : WoI w l [] (fun k => k < w1.heap.size) w1 := ⟨BoxRow.new (boxed_more HH.out.1 hm1), b5, hA1, fun j hj => by rw [hs1]; exact hj, by rw [hs1]; exact Nat.le_refl _⟩
  rw [hw1]
  clear hw1 hwa b5 hsa HH
  refine range_set rfl h1 (gf := 76) (lb := #[.pointer (some ⟨w.heap.size + 1, 0, none⟩)]) rfl trivial (enters_of Try.func76 (by kernel_rfl) rfl)
    hseq (by omega) hA1 (fun _ => rfl)
    (fun pre E V => WoI w l pre E V)
    (fun _ _ _ _ => False)
    (fun s E A A' h k => h.stay k)
    (fun _ _ _ _ _ h _ => h)
    (fun _ _ _ h => h.bs) st1
    (fun x => { tmps := #[.string (bs l), undef, .slice none 0 0, .pointer (some ⟨w.heap.size, 0, none⟩), .string (bs x), .string (bs l), .func (.func 76) #[] #[.pointer (some ⟨w.heap.size + 1, 0, none⟩)], .string (bs x), undef, undef, undef, undef, undef, undef, undef, undef, undef], defers := [] }) ?assign ?body ?done ?stop
  case assign =>
    intro l2 x V K' hK'
    gi_wp2
    exact hK'
  case body =>
    rintro l2 pre x V E hSp st hwE hlw hszV hlenN
    have hd : 1 ≤ n - 1 - 1 := by omega
    have hplen : (strs (wds pre)).length ≤ 1000000 := by rw [strs_len]; have := wds_len pre; omega
    clear hseq hm1 hA1 st1
    have hmk := fun w => tk_mark x w
    have hwd := fun w => tk_word x w
    cases hmm : isMark x with
    | true =>
      rw [hmm] at hmk
      have HO := Hid.mk (show WoI w l (pre ++ [x]) E V from ⟨by rw [wds_mark pre hmm]; exact st.row, st.bs, st.more, st.low, st.sz⟩)
      clear st hmm hwd
      gi_wp2_with (refine ⟨trivial, ?_⟩; gi_at_call 49; refine (CallsIn.inRound l2 (callsIn_wide.2 (hmk _))).mono ?_; rintro e w' ⟨rfl, hw'⟩; subst w')
      exact ⟨E, Turn.refl _ _ _, HO.out⟩
    | false =>
      rw [hmm] at hmk
      have hX := Hid.mk (show strs (wds pre) ++ [.string (bs (wd1 x))] = strs (wds (pre ++ [x])) by rw [wds_word pre hmm, strs_snoc])
      obtain ⟨v, h2, h3, h4⟩ := st.row
      obtain ⟨av, cv, rfl⟩ := wshape_of h3
      obtain ⟨y, hy⟩ : ∃ y, wd1 x = y := ⟨_, rfl⟩
      rw [hy] at hwd hX
      obtain ⟨K, hK⟩ : ∃ K, (strs (wds pre)).length = K := ⟨_, rfl⟩
      have c3 : ∀ j, (V.drewN j).cell? ⟨w.heap.size, 0, none⟩ = some (.slice av K cv) := fun j => by rw [← hK]; exact (boxed_more h2 (More.drewN V j)).cell
      have c3a : ∀ j, ((V.drewN j).alloc (.cells #[.string (bs y)] 9)).cell? ⟨w.heap.size, 0, none⟩ = some (.slice av K cv) := fun j => by rw [← hK]; exact (boxed_more (boxed_more h2 (More.drewN V j)) (more_alloc _ _)).cell
      have HS := Hid.mk (And.intro st (And.intro h2 (And.intro h3 h4)))
      have HK := Hid.mk hK
      rw [hK] at hplen
      have hsV := st.sz
      clear st h2 h3 h4 hK hy hmm
      gi_wp2_with (refine ⟨trivial, ?_⟩; gi_at_call 49; refine (CallsIn.inRound l2 (callsIn_wide.2 (hmk _))).mono ?_; rintro e w' ⟨rfl, hw'⟩; subst w')
      refine region_detS 4 11 2 [.slice av K cv, .string (bs x), .string (bs y), .slice (some ⟨V.heap.size, 0, none⟩) 1 1]
        { tmps := #[.string (bs l), undef, .slice none 0 0, .pointer (some ⟨w.heap.size, 0, none⟩), .string (bs x), .string (bs l), .func (.func 76) #[] #[.pointer (some ⟨w.heap.size + 1, 0, none⟩)], .string (bs x), .string (bs x), .bool false, .bool true, .slice av K cv, .string (bs x), .string (bs y), .slice (some ⟨V.heap.size, 0, none⟩) 1 1, undef, undef], defers := [] }
        (fun dn w' => (dn 3 = false ∧ ∃ j, w' = V.drewN j) ∨ (dn 3 = true ∧ ∃ j, w' = (V.drewN j).alloc (.cells #[.string (bs y)] 9))) (by kernel_rfl) (detN_of (by kernel_rfl)) (by kernel_rfl) (Nat.le_of_ble_eq_true (by kernel_rfl)) (fun dn hdn => .inl ⟨hdn 3, 1, rfl⟩) ?step ?fin
      case step =>
        rintro i hi dn w' hdn (⟨h7, j, rfl⟩ | ⟨h7, j, rfl⟩)
        · have c3 := c3 j
          rcases (show i = 0 ∨ i = 1 ∨ i = 2 ∨ i = 3 by omega) with rfl | rfl | rfl | rfl
          all_goals
            refine wpOpIn_step rfl (fun K hK => ?_)
            go_simp
          · exact hK _ _ ⟨rfl, rfl, .inl ⟨by simp [upd, h7], j, rfl⟩⟩
          · exact hK _ _ ⟨rfl, rfl, .inl ⟨by simp [upd, h7], j, rfl⟩⟩
          · refine ⟨trivial, (CallsIn.inRound l2 (callsIn_wide.2 (hwd _))).mono ?_⟩
            rintro e w'' ⟨rfl, hw⟩
            subst w''
            exact hK _ _ ⟨rfl, rfl, .inl ⟨by simp [upd, h7], j, rfl⟩⟩
          · exact hK _ _ ⟨rfl, rfl, .inr ⟨by simp [upd], j, rfl⟩⟩
        · have c3 := c3a j
          rcases (show i = 0 ∨ i = 1 ∨ i = 2 ∨ i = 3 by omega) with rfl | rfl | rfl | rfl
          · refine wpOpIn_step rfl (fun K hK => ?_)
            go_simp
            exact hK _ _ ⟨rfl, rfl, .inr ⟨by simp [upd, h7], j, rfl⟩⟩
          · refine wpOpIn_step rfl (fun K hK => ?_)
            go_simp
            exact hK _ _ ⟨rfl, rfl, .inr ⟨by simp [upd, h7], j, rfl⟩⟩
          · refine wpOpIn_step rfl (fun K hK => ?_)
            go_simp
            refine ⟨trivial, (CallsIn.inRound l2 (callsIn_wide.2 (hwd _))).mono ?_⟩
            rintro e w'' ⟨rfl, hw⟩
            subst w''
            exact hK _ _ ⟨rfl, rfl, .inr ⟨by simp [upd, h7], j, rfl⟩⟩
          · rw [h7] at hdn; cases hdn
      case fin =>
        rintro dn w' hall (⟨h7, _⟩ | ⟨_, j, rfl⟩)
        · rw [hall 3 (by decide)] at h7; cases h7
        have hstj := HS.out.1.stay (V' := V.drewN j) (Stay.of_more (More.drewN V j) hwE)
        have h2 := boxed_more HS.out.2.1 (More.drewN V j)
        have h3 := (More.drewN V j).own HS.out.2.2.1
        have htj : Turn w.heap.size E E V (V.drewN j) := (Turn.refl w.heap.size E (V.drewN j)).drawn
        clear c3 c3a
        rw [show (Value.slice (some ⟨V.heap.size, 0, none⟩) 1 1) = Value.slice (some ⟨(V.drewN j).heap.size, 0, none⟩) 1 1 from rfl]
        have hsj : Hid ((V.drewN j).heap.size = V.heap.size) := Hid.mk rfl
        rw [← hsj.out] at hsV
        generalize V.drewN j = Vj at *
        refine opIn_append_at rfl rfl (.tmp 11) (.tmp 14) 22 rfl w.heap.size 9 i0 (.string ⟨#[]⟩) 1 16 Try.underlying22 hi hz0 hz1 hz2 rfl (by decide) (.slice av K cv) K (strs (wds pre)) rfl (by rw [← HK.out]; exact h3.alloc _) ⟨Vj.heap.size, 0, none⟩ 1 1 [.string (bs y)] rfl rfl (one_cell _ _ _) (one_str _) (by unfold maxLen; omega) (by omega) (by simp; omega) ?_
        intro v2 w2 hown2 hg2 hat2
        rw [← HK.out] at hown2 hg2 hat2
        obtain ⟨hB2, hrow3, htu3, hbx3⟩ := BoxRow.app (lo := w.heap.size) (top := w.heap.size + 1 + 1) h2 HS.out.2.2.2 (by omega) hsV (hstj.low _ (by omega)) (Nat.le_refl _) (more_alloc Vj (.cells #[.string (bs y)] 9)) hown2 hg2 (by rcases hat2 with h | h; exact .inl h; exact .inr h)
        have hm3 := Below.trans hstj.more (htu3.below hstj.more.size)
        have b5 := hbx3 _ _ _ hstj.bs (by omega) (by omega)
        have d3 := hB2.cell
        have g3 := hB2.frozen
        have HO := Hid.mk (And.intro (htj.trans htu3) (show WoI w l (pre ++ [x]) (fun k => E k ∨ (Vj.heap.size ≤ k ∧ k < w2.heap.size)) (w2.setCell ⟨w.heap.size, 0, none⟩ v2) from
          ⟨by rw [← hX.out]; exact hrow3, b5, hm3, fun j hj => .inl (hstj.low j hj), Nat.le_trans hsV htu3.size⟩))
        obtain ⟨a2, c2, rfl⟩ := wshape_of hown2
        clear hstj h2 h3 htj hB2 hrow3 htu3 hbx3 hm3 b5 HS hown2 hg2 hat2
        refine wpOpIn_step rfl (fun K hK => ?_)
        go_simp
        refine hK _ _ ?_
        exact ⟨_, HO.out.1, HO.out.2⟩
  case done =>
    rintro D ys E V hD hED rfl st hwE _ hKD
    obtain ⟨v, h2, h3, h4⟩ := st.row
    have c3 := h2.cell
    have HS := Hid.mk (And.intro st (And.intro h3 h4))
    clear st h2 h3 h4
    gi_wp2
    refine leaves_set (C := E) (B := w1.heap.size) (.cons (by omega) hKD (fun _ h => by cases h) .nil) (one_mark hED) fun w' hw' _ => ?_
    refine ⟨v, by simp [results, Try.f60, go_sem], v, rfl, ?_, (HS.out.1.stay hw').more⟩
    have h := own_stay HS.out.2.1 (fun j hj => (HS.out.2.2 j hj).1) hw'
    rw [strs_len] at h
    exact h
  case stop =>
    rintro D cc pre E V hD hED _ h _ _ _
    exact h.elim

end Go.Proofs.Ytiiflegfbieblaa
