/-
  vocab: Words of nil.
-/
import Derived.Test.YtbpegpgbdemomaaVoE
namespace Go.Proofs.Ytbpegpgbdemomaa
open Go.RowKit Go.Shelf
attribute [local go_sem] Oper.semAt_some vo_field

set_option maxRecDepth 1000000 in
set_option maxHeartbeats 2000000 in
theorem all_none (n : Nat) (Bt lo : Nat) (w : World) :
    SeqSet Fence.wide n Try.prog 55 #[.pointer (some ⟨Bt, 0, none⟩)] encL lo (fun A => Boxed A Bt 53 (.pointer none)) (fun xs => xs = []) (fun _ => False) 0 w := by
  intro l2 J Jx W C0 hW hC0 hlo hJ hJx hKp hY h0
  have cb := (hKp _ _ _ h0).cell
  have H0 := Hid.mk (And.intro h0 hC0)
  clear h0 hC0 hKp hY hJ hJx
  refine callsIn_of_wp Try.func55 rfl trivial ?_ rfl
  simp only [Try.ntmps55, List.size_toArray, List.length_cons, List.length_nil, Nat.reduceAdd, Nat.reduceSub, Array.replicate_succ, Array.replicate_zero, List.push_toArray, List.append_toArray, List.nil_append, List.cons_append]
  gi_wp2
  refine bodyPost_ret (results_none rfl _ _ _) rfl ?_
  exact ⟨⟨_, rfl⟩, .inl ⟨[], C0, rfl, H0.out.1, H0.out.2⟩⟩

/-- Words of nil, which goes over none. -/
structure NnI (w : World) (Bt : Nat) (E : Nat → Prop) (V : World) : Prop where
  row : BoxRow 22 9 w.heap.size (Bt + 1) [] E V
  bt : Boxed V Bt 53 (.pointer none)
  more : More w V
  low : ∀ j, j < Bt + 1 → E j
theorem NnI.stay {w : World} {Bt : Nat} {E : Nat → Prop} {V V' : World} (h : NnI w Bt E V) (st : Stay E V V') (hB : w.heap.size < Bt) : NnI w Bt E V' :=
  ⟨h.row.stay st (h.low _ (by omega)), st.boxed h.bt (h.low _ (by omega)), Below.trans h.more (st.below fun j hj => h.low j (by omega)), h.low⟩

set_option maxRecDepth 1000000 in
set_option maxHeartbeats 4000000 in
theorem von_words_in (n : Nat) (hn : 16 ≤ n) (w : World) :
    CallsIn Fence.wide n Try.prog 13 #[.pointer none] w fun e w' => ∃ u, e = .returned u ∧ Grow w u [] w' := by
  have h1 : 1 ≤ n := by omega
  have ht := fun w1 => vo_table_nil w1
  obtain ⟨wa, hwa⟩ : ∃ wa, w.alloc (.cells #[.slice none 0 0] 22) = wa := ⟨_, rfl⟩
  have ba : Boxed wa w.heap.size 22 (.slice none 0 0) := by rw [← hwa]; exact Boxed.new _ _ _
  have hsa : wa.heap.size = w.heap.size + 1 := by rw [← hwa]; simp
  have hma : More w wa := by rw [← hwa]; exact more_alloc _ _
  have HH := Hid.mk (And.intro ba (And.intro hma hsa))
  clear ba hma hsa
  refine callsIn_of_wp_marks Try.func13 rfl trivial ?_ rfl
  simp only [Try.ntmps13, List.size_toArray, List.length_cons, List.length_nil, Nat.reduceAdd, Nat.reduceSub, Array.replicate_succ, Array.replicate_zero, List.push_toArray, List.append_toArray, List.nil_append, List.cons_append]
  gi_wp2_with (first
    | (refine ⟨trivial, ?_⟩; gi_at_call 37; refine (callsIn_wide.2 (ht _)).mono ?_; rintro e w1 ⟨rfl, hm⟩; have H1 := Hid.mk hm; clear hm)
    | (refine ⟨trivial, ?_⟩; gi_at_call 38; refine (all_call _ _ _).mono ?_; rintro e w' ⟨rfl, hw'⟩; subst w'))
  obtain ⟨w2, hw2⟩ : ∃ w2, w1.alloc (.cells #[.pointer none] 53) = w2 := ⟨_, rfl⟩
  have hm2 : More w1 w2 := by rw [← hw2]; exact more_alloc _ _
  obtain ⟨Bt, hBt⟩ : ∃ Bt, w1.heap.size = Bt := ⟨_, rfl⟩
  have hs2 : w2.heap.size = Bt + 1 := by rw [← hw2]; simp [hBt]
  have b5 : Boxed w2 Bt 53 (.pointer none) := by rw [← hw2, ← hBt]; exact Boxed.new _ _ _
  have hA2 := More.trans HH.out.2.1 (More.trans H1.out hm2)
  have hlt : w.heap.size < Bt := by have := HH.out.2.2; have := H1.out.size; omega
  have st2 : NnI w Bt (fun k => k < w2.heap.size) w2 := ⟨BoxRow.new (boxed_more HH.out.1 (More.trans H1.out hm2)), b5, hA2, fun j hj => by rw [hs2]; exact hj⟩
  have hseq := all_none (n - 1) Bt w.heap.size w
  rw [hw2, hBt]
  clear hw2 hwa b5 HH hBt
  refine range_set rfl h1 (gf := 55) (lb := #[.pointer (some ⟨Bt, 0, none⟩)]) rfl trivial (enters_of Try.func55 (by kernel_rfl) rfl)
    hseq (by omega) hA2 (fun _ => rfl)
    (fun _ E V => NnI w Bt E V)
    (fun _ _ _ _ => False)
    (fun s E A A' h k => h.stay k hlt)
    (fun _ _ _ _ _ h _ => h)
    (fun _ _ _ h => h.bt) st2
    (fun x => { tmps := #[.pointer none, undef, .slice none 0 0, .pointer (some ⟨w.heap.size, 0, none⟩), undef, .string (bs x.2), .pointer none, .agg #[.pointer none], .pointer none, .func (.func 55) #[] #[.pointer (some ⟨Bt, 0, none⟩)], .int .i64 x.1, .string (bs x.2), undef, undef, undef, undef, undef], defers := [] }) ?assign ?body ?done ?stop
  case assign =>
    intro l2 x V K' hK'
    gi_wp2
    exact hK'
  case body =>
    rintro l2 pre x V E hSp st hwE hlw hszV hlenN
    exact absurd hlenN (Nat.not_lt_zero _)
  case done =>
    rintro Dm ys E V hD hED _ st hwE _ hKD
    obtain ⟨u, h2, h3, h4⟩ := st.row
    have c3 := h2.cell
    have HS := Hid.mk (And.intro st (And.intro h3 h4))
    clear st h2 h3 h4
    gi_wp2
    refine leaves_set (C := E) (B := w2.heap.size) (.cons (by omega) hKD (fun _ h => by cases h) .nil) (one_mark hED) fun w' hw' _ => ?_
    refine ⟨u, by simp [results, Try.f13, go_sem], u, rfl, ?_, Below.trans HS.out.1.more (hw'.below fun j hj => HS.out.1.low j (by omega))⟩
    exact own_stay HS.out.2.1 (fun j hj => (HS.out.2.2 j hj).1) hw'
  case stop =>
    rintro Dm cc pre E V hD hED _ h _ _ _
    exact h.elim
theorem von_Words (w : World) :
    Calls Try.prog 13 #[.pointer none] w fun e w' => ∃ u, e = .returned u ∧ Grow w u [] w' := callsIn_wide.1 (von_words_in 16 (Nat.le_refl _) w)
end Go.Proofs.Ytbpegpgbdemomaa
