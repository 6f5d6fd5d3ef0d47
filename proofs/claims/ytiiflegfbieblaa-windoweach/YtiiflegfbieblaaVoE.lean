/-
  vocab: Words.
-/
import Derived.Test.YtiiflegfbieblaaVoD
namespace Go.Proofs.Ytiiflegfbieblaa
open Go.RowKit Go.Shelf
attribute [local go_sem] Oper.semAt_some vo_field

/-- Between two rounds of Words. -/
structure WdI (w : World) (Bt b : Nat) (xs : List Value) (E : Nat → Prop) (V : World) : Prop where
  row : BoxRow 22 9 w.heap.size (Bt + 1) xs E V
  bt : Boxed V Bt 58 (.pointer (some ⟨b, 0, none⟩))
  more : More w V
  low : ∀ j, j < Bt + 1 → E j
  sz : Bt + 1 ≤ V.heap.size
theorem WdI.stay {w : World} {Bt b : Nat} {xs : List Value} {E : Nat → Prop} {V V' : World} (h : WdI w Bt b xs E V) (st : Stay E V V') (hB : w.heap.size < Bt) : WdI w Bt b xs E V' :=
  ⟨h.row.stay st (h.low _ (by omega)), st.boxed h.bt (h.low _ (by omega)), Below.trans h.more (st.below fun j hj => h.low j (by omega)), h.low, Nat.le_trans h.sz st.size⟩

theorem SRd.old {w : World} {D : Nat → Prop} {b : Nat} {ts : List (List UInt8)} (h : Tab w D b ts) : ∃ vk, w.cell? ⟨b, 0, none⟩ = some vk ∧ SRd w vk ts := by
  obtain ⟨vk, vh, vd, f, hT, _⟩ := h
  exact ⟨vk, hT.cells.1, 0, hT.keys⟩
theorem numL_snd (ts : List (List UInt8)) : (numL ts ts.length).map Prod.snd = ts := by
  rw [show (numL ts ts.length).map Prod.snd = (List.range ts.length).map (fun j => ts.getD j []) by simp [numL], list_of]

set_option maxRecDepth 1000000 in
set_option maxHeartbeats 4000000 in
theorem vo_words_in (n : Nat) (hn : 16 ≤ n) (v : Nat) (w : World) (D : Nat → Prop) (ts : List (List UInt8)) (h : Voc w D v ts) (hN : ts.length ≤ 1000000) :
    CallsIn Fence.wide n Try.prog 29 #[.pointer (some ⟨v, 0, none⟩)] w fun e w' => ∃ u, e = .returned u ∧ Grow w u ts w' := by
  have h1 : 1 ≤ n := by omega
  obtain ⟨hv, b, hb, hT⟩ := h
  obtain ⟨i0, hi, hz0, hz1, hz2⟩ := info_parts Try.infoStr
  obtain ⟨vk, hck, hsk⟩ := SRd.old hT
  have ht := fun w1 (hm : More w w1) => vo_table (some ⟨b, 0, none⟩) v w1 ((hm.cell (lt_of_block hb)).trans (wcells1 hb).1)
  obtain ⟨wa, hwa⟩ : ∃ wa, w.alloc (.cells #[.slice none 0 0] 22) = wa := ⟨_, rfl⟩
  have ba : Boxed wa w.heap.size 22 (.slice none 0 0) := by rw [← hwa]; exact Boxed.new _ _ _
  have hsa : wa.heap.size = w.heap.size + 1 := by rw [← hwa]; simp
  have hma : More w wa := by rw [← hwa]; exact more_alloc _ _
  have HH := Hid.mk (And.intro ba (And.intro hma hsa))
  have HK := Hid.mk (And.intro hck hsk)
  clear ba hma hsa hv hb hT hck hsk
  refine callsIn_of_wp_marks Try.func29 rfl trivial ?_ rfl
  simp only [Try.ntmps29, List.size_toArray, List.length_cons, List.length_nil, Nat.reduceAdd, Nat.reduceSub, Array.replicate_succ, Array.replicate_zero, List.push_toArray, List.append_toArray, List.nil_append, List.cons_append]
  gi_wp2_with (first
    | (refine ⟨trivial, ?_⟩; gi_at_call 47; refine (callsIn_wide.2 (ht _ HH.out.2.1)).mono ?_; rintro e w1 ⟨rfl, hm⟩; have H1 := Hid.mk hm; clear hm)
    | (refine ⟨trivial, ?_⟩; gi_at_call 48; refine (all_call _ _ _).mono ?_; rintro e w' ⟨rfl, hw'⟩; subst w'))
  obtain ⟨w2, hw2⟩ : ∃ w2, w1.alloc (.cells #[.pointer (some ⟨b, 0, none⟩)] 58) = w2 := ⟨_, rfl⟩
  have hm2 : More w1 w2 := by rw [← hw2]; exact more_alloc _ _
  obtain ⟨Bt, hBt⟩ : ∃ Bt, w1.heap.size = Bt := ⟨_, rfl⟩
  have hs2 : w2.heap.size = Bt + 1 := by rw [← hw2]; simp [hBt]
  have b5 : Boxed w2 Bt 58 (.pointer (some ⟨b, 0, none⟩)) := by rw [← hw2, ← hBt]; exact Boxed.new _ _ _
  have hA2 := More.trans HH.out.2.1 (More.trans H1.out hm2)
  have hlt : w.heap.size < Bt := by have := HH.out.2.2; have := H1.out.size; omega
  have st2 : WdI w Bt b [] (fun k => k < w2.heap.size) w2 := ⟨BoxRow.new (boxed_more HH.out.1 (More.trans H1.out hm2)), b5, hA2, fun j hj => by rw [hs2]; exact hj, by rw [hs2]; exact Nat.le_refl _⟩
  have hseq := all_in (n - 1) (by omega) Bt b w.heap.size vk ts hN w
  rw [hw2, hBt]
  clear hw2 hwa b5 HH hBt
  refine range_set rfl h1 (gf := 65) (lb := #[.pointer (some ⟨Bt, 0, none⟩)]) rfl trivial (enters_of Try.func65 (by kernel_rfl) rfl)
    hseq (by omega) hA2 (fun _ => rfl)
    (fun pre E V => WdI w Bt b (strs (pre.map Prod.snd)) E V)
    (fun _ _ _ _ => False)
    (fun s E A A' h k => h.stay k hlt)
    (fun _ _ _ _ _ h _ => h)
    (fun _ _ _ h => ⟨h.bt, (h.more.cell (World.block_lt_of_cell? _ _ HK.out.1)).trans HK.out.1, HK.out.2.more h.more⟩) st2
    (fun x => { tmps := #[.pointer (some ⟨v, 0, none⟩), undef, .slice none 0 0, .pointer (some ⟨w.heap.size, 0, none⟩), undef, .string (bs x.2), .pointer (some ⟨v, 0, none⟩), .agg #[.pointer (some ⟨b, 0, none⟩)], .pointer (some ⟨b, 0, none⟩), .func (.func 65) #[] #[.pointer (some ⟨Bt, 0, none⟩)], .int .i64 x.1, .string (bs x.2), undef, undef, undef, undef, undef], defers := [] }) ?assign ?body ?done ?stop
  case assign =>
    intro l2 x V K' hK'
    gi_wp2
    exact hK'
  case body =>
    rintro l2 pre x V E hSp st hwE hlw hszV hlenN
    have hd : 1 ≤ n - 1 - 1 := by omega
    have hplen : (strs (pre.map Prod.snd)).length ≤ 1000000 := by rw [strs_len, List.length_map]; omega
    have hX := Hid.mk (show strs (pre.map Prod.snd) ++ [.string (bs x.2)] = strs ((pre ++ [x]).map Prod.snd) by rw [List.map_append, List.map_singleton, strs_snoc])
    clear hseq hm2 hA2 st2
    obtain ⟨u, h2, h3, h4⟩ := st.row
    obtain ⟨av, cv, rfl⟩ := wshape_of h3
    obtain ⟨y, hy⟩ : ∃ y, x.2 = y := ⟨_, rfl⟩
    rw [hy] at hX ⊢
    obtain ⟨K, hK⟩ : ∃ K, (strs (pre.map Prod.snd)).length = K := ⟨_, rfl⟩
    have c3 : V.cell? ⟨w.heap.size, 0, none⟩ = some (.slice av K cv) := by rw [← hK]; exact h2.cell
    have HS := Hid.mk (And.intro st (And.intro h2 (And.intro h3 h4)))
    have HK2 := Hid.mk hK
    rw [hK] at hplen
    have hsV := st.sz
    clear st h2 h3 h4 hK hy
    gi_wp2_with (gi_at_builtin; refine wpListIn_append_own_at _ rfl (.tmp 12) (.tmp 14) 22 rfl w.heap.size 9 i0 (.string ⟨#[]⟩) 1 16 Try.underlying22 hi hz0 hz1 hz2 rfl (by decide) (.slice av K cv) K (strs (pre.map Prod.snd)) rfl (by rw [← HK2.out]; exact HS.out.2.2.1.alloc _) ⟨V.heap.size, 0, none⟩ 1 1 [.string (bs y)] rfl rfl (one_cell _ _ _) (one_str _) (by unfold maxLen; omega) (by omega) (by simp; omega) ?_)
    intro v2 w4 hown2 hg2 _ hat2
    rw [← HK2.out] at hown2 hg2 hat2
    obtain ⟨hB2, hrow3, htu3, hbx3⟩ := BoxRow.app (lo := w.heap.size) (top := Bt + 1) HS.out.2.1 HS.out.2.2.2 (by omega) hsV (HS.out.1.low _ (by omega)) (Nat.le_refl _) (more_alloc V (.cells #[.string (bs y)] 9)) hown2 hg2 (by rcases hat2 with h | h; exact .inl h; exact .inr (by rw [World.size_alloc]; exact h))
    have hm3 := Below.trans HS.out.1.more (htu3.below HS.out.1.more.size)
    have b5 := hbx3 _ _ _ HS.out.1.bt (by omega) (by omega)
    have d3 := hB2.cell
    have g3 := hB2.frozen
    have HO := Hid.mk (And.intro htu3 (show WdI w Bt b (strs ((pre ++ [x]).map Prod.snd)) (fun k => E k ∨ (V.heap.size ≤ k ∧ k < w4.heap.size)) (w4.setCell ⟨w.heap.size, 0, none⟩ v2) from
      ⟨by rw [← hX.out]; exact hrow3, b5, hm3, fun j hj => .inl (HS.out.1.low j hj), Nat.le_trans hsV htu3.size⟩))
    obtain ⟨a2, c2, rfl⟩ := wshape_of hown2
    clear hB2 hrow3 htu3 hbx3 hm3 b5 HS hown2 hg2 hat2
    gi_wp2
    exact ⟨_, HO.out.1, HO.out.2⟩
  case done =>
    rintro Dm ys E V hD hED rfl st hwE _ hKD
    rw [numL_snd] at st
    obtain ⟨u, h2, h3, h4⟩ := st.row
    have c3 := h2.cell
    have HS := Hid.mk (And.intro st (And.intro h3 h4))
    clear st h2 h3 h4
    gi_wp2
    refine leaves_set (C := E) (B := w2.heap.size) (.cons (by omega) hKD (fun _ h => by cases h) .nil) (one_mark hED) fun w' hw' _ => ?_
    refine ⟨u, by simp [results, Try.f29, go_sem], u, rfl, ?_, Below.trans HS.out.1.more (hw'.below fun j hj => HS.out.1.low j (by omega))⟩
    have h := own_stay HS.out.2.1 (fun j hj => (HS.out.2.2 j hj).1) hw'
    rw [strs_len] at h
    exact h
  case stop =>
    rintro Dm cc pre E V hD hED _ h _ _ _
    exact h.elim
theorem vo_Words (v : Nat) (w : World) (D : Nat → Prop) (ts : List (List UInt8)) (h : Voc w D v ts) (hN : ts.length ≤ 1000000) :
    Calls Try.prog 29 #[.pointer (some ⟨v, 0, none⟩)] w fun e w' => ∃ u, e = .returned u ∧ Grow w u ts w' := callsIn_wide.1 (vo_words_in 16 (Nat.le_refl _) v w D ts h hN)
end Go.Proofs.Ytiiflegfbieblaa
