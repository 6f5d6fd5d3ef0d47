/-
  Law 18: the chapter's example; GramCompares, GramParses, GramKeys.
-/
import Derived.Test.YteiegedffjkbeaaGraN
namespace Go.Proofs.Yteiegedffjkbeaa
open Go.RowKit

theorem il_lit {W : World} {b n : Nat} {l : List Int} {t : TypeId} {z : Nat × Nat} (hn : n = l.length) (h : W.heap[b]? = some (.cells (zs l).toArray t z)) : IL W (.slice (some ⟨b, 0, none⟩) n n) l := by
  subst hn
  refine .inr ⟨b, 0, _, rfl, lt_of_block h, fun j hj => ?_⟩
  simp only [World.cell?, h]
  simp [zs, hj]
theorem cl_lit {W : World} {b n : Nat} {Z : List (Value × CE)} {t : TypeId} {z : Nat × Nat} (hn : n = Z.length) (h : W.heap[b]? = some (.cells (cz Z).toArray t z)) (hi : ∀ y ∈ Z, IL W y.1 y.2.1) : CL W (.slice (some ⟨b, 0, none⟩) n n) (Z.map Prod.snd) := by
  subst hn
  refine .inr ⟨b, 0, Z.length, by rw [List.length_map], lt_of_block h, fun j hj => ?_⟩
  rw [List.length_map] at hj
  obtain ⟨g1, g2⟩ := cz_get Z j hj
  have ee : ce (Z.map Prod.snd) j = Z[j].2 := by simp [ce, List.getD, hj]
  refine ⟨Z[j].1, ?_, ?_, ?_⟩
  · simp only [World.cell?, h]
    simpa using g1
  · rw [ee]
    simp only [World.cell?, h]
    simpa using g2
  · rw [ee]
    exact hi _ (List.getElem_mem hj)
theorem il_new (w : World) (l : List Int) (n : Nat) (hn : n = l.length) : IL (w.alloc (.cells (zs l).toArray 3)) (.slice (some ⟨w.heap.size, 0, none⟩) n n) l := il_lit hn (heap_alloc_new w _)
abbrev bx (l : List Int) : Obj := .cells (zs l).toArray 3
theorem lit_three (w : World) : CL ((((w.alloc (bx [2])).alloc (bx [1])).alloc (bx [2])).alloc (.cells #[.slice (some ⟨w.heap.size, 0, none⟩) 1 1, .int .i64 1, .slice (some ⟨w.heap.size + 1, 0, none⟩) 1 1, .int .i64 4, .slice (some ⟨w.heap.size + 1 + 1, 0, none⟩) 1 1, .int .i64 5] 43)) (.slice (some ⟨w.heap.size + 1 + 1 + 1, 0, none⟩) 3 3) [([2], 1), ([1], 4), ([2], 5)] := by
  have h1 := il_new w [2] 1 rfl
  have h2 := il_new (w.alloc (bx [2])) [1] 1 rfl
  have h3 := il_new ((w.alloc (bx [2])).alloc (bx [1])) [2] 1 rfl
  rw [World.size_alloc] at h2
  rw [World.size_alloc, World.size_alloc] at h3
  have h4 := heap_alloc_new (((w.alloc (bx [2])).alloc (bx [1])).alloc (bx [2])) (.cells #[.slice (some ⟨w.heap.size, 0, none⟩) 1 1, .int .i64 1, .slice (some ⟨w.heap.size + 1, 0, none⟩) 1 1, .int .i64 4, .slice (some ⟨w.heap.size + 1 + 1, 0, none⟩) 1 1, .int .i64 5] 43)
  rw [World.size_alloc, World.size_alloc, World.size_alloc] at h4
  refine cl_lit (Z := [(.slice (some ⟨w.heap.size, 0, none⟩) 1 1, ([2], 1)), (.slice (some ⟨w.heap.size + 1, 0, none⟩) 1 1, ([1], 4)), (.slice (some ⟨w.heap.size + 1 + 1, 0, none⟩) 1 1, ([2], 5))]) rfl h4 fun y hy => ?_
  simp only [List.mem_cons, List.not_mem_nil, or_false] at hy
  rcases hy with rfl | rfl | rfl
  · exact h1.more (More.trans (More.trans (more_alloc _ _) (more_alloc _ _)) (more_alloc _ _))
  · exact h2.more (More.trans (more_alloc _ _) (more_alloc _ _))
  · exact h3.more (more_alloc _ _)
theorem lit_two (w : World) : CL (((w.alloc (bx [1])).alloc (bx [2])).alloc (.cells #[.slice (some ⟨w.heap.size, 0, none⟩) 1 1, .int .i64 4, .slice (some ⟨w.heap.size + 1, 0, none⟩) 1 1, .int .i64 6] 43)) (.slice (some ⟨w.heap.size + 1 + 1, 0, none⟩) 2 2) [([1], 4), ([2], 6)] := by
  have h1 := il_new w [1] 1 rfl
  have h2 := il_new (w.alloc (bx [1])) [2] 1 rfl
  rw [World.size_alloc] at h2
  have h4 := heap_alloc_new ((w.alloc (bx [1])).alloc (bx [2])) (.cells #[.slice (some ⟨w.heap.size, 0, none⟩) 1 1, .int .i64 4, .slice (some ⟨w.heap.size + 1, 0, none⟩) 1 1, .int .i64 6] 43)
  rw [World.size_alloc, World.size_alloc] at h4
  refine cl_lit (Z := [(.slice (some ⟨w.heap.size, 0, none⟩) 1 1, ([1], 4)), (.slice (some ⟨w.heap.size + 1, 0, none⟩) 1 1, ([2], 6))]) rfl h4 fun y hy => ?_
  simp only [List.mem_cons, List.not_mem_nil, or_false] at hy
  rcases hy with rfl | rfl
  · exact h1.more (More.trans (more_alloc _ _) (more_alloc _ _))
  · exact h2.more (more_alloc _ _)
theorem il_snd (w : World) (l m : List Int) (n : Nat) (hn : n = m.length) : IL ((w.alloc (bx l)).alloc (bx m)) (.slice (some ⟨w.heap.size + 1, 0, none⟩) n n) m := by
  have := il_new (w.alloc (bx l)) m n hn
  rwa [World.size_alloc] at this

set_option maxRecDepth 1000000 in
set_option maxHeartbeats 4000000 in
theorem live_true (w : World) : Calls Try.prog 7 #[] w fun e w' => e = .returned (.bool true) ∧ More w w' := by
  have hsum := fun (W : World) (v : Value) (h : CL W v [([2], 1), ([1], 4), ([2], 5)]) => gr_sum v [([2], 1), ([1], 4), ([2], 5)] W h (by decide) (Sht.of (by intro z hz; simp at hz; rcases hz with rfl | rfl | rfl <;> simp)) (by intro x hx; simp at hx; rcases hx with rfl | rfl | rfl <;> exact Fit.of (by decide))
  have hse : sumI [([2], 1), ([1], 4), ([2], 5)] = [([1], 4), ([2], 6)] := by decide
  simp only [hse] at hsum
  have hkey := fun (W : World) (v : Value) (h : IL W v [258]) => gr_key v [258] W h (by decide) (by decide)
  simp only [show keyL [258] = [0, 1, 2] by decide] at hkey
  have hcmp := fun (W : World) (u v : Value) (h : IL W u [1, 2]) (k : IL W v [1, 3]) => gr_cmp u v [1, 2] [1, 3] W h k (by decide) (by decide)
  simp only [show cmpL [1, 2] [1, 3] = -1 by decide] at hcmp
  have hbeh := fun (W : World) (u v : Value) (h : IL W u [2, 1]) (k : IL W v [1, 2]) => gr_behind u v [2, 1] [1, 2] W h k (by decide) (by decide)
  simp only [show cmpL [2, 1].reverse [1, 2].reverse = -1 by decide] at hbeh
  have hsam := fun (W : World) (u v : Value) (h : CL W u [([1], 4), ([2], 6)]) (k : CL W v [([1], 4), ([2], 6)]) => rf_same u v _ _ W h k (by decide) (Sht.of (by intro z hz; simp at hz; rcases hz with rfl | rfl <;> simp))
  simp only [decide_true] at hsam
  clear hse
  go_enter Try.func7, Try.ntmps7
  have hbs : (bs [0, 1, 2]).toList = [0, 1, 2] := by rw [ByteArray.toList_eq]; simp [bs]
  go_wp2_with (first
    | (go_at_call 17; refine (hsum _ _ (lit_three w)).mono ?_; rintro e w1 ⟨v1, rfl, hC, hM⟩; have H1 := Hid.mk (And.intro hC (More.trans (More.trans (More.trans (More.trans (more_alloc _ _) (more_alloc _ _)) (more_alloc _ _)) (more_alloc _ _)) hM)); obtain ⟨so, sc, rfl⟩ := hC.shape; clear hC hM hsum)
    | (go_at_call 12; refine (hkey _ _ (il_new _ [258] 1 rfl)).mono ?_; rintro e w2 ⟨rfl, hM⟩; have H2 := Hid.mk (And.intro (H1.out.1.more (More.trans (more_alloc _ _) hM)) (More.trans H1.out.2 (More.trans (more_alloc _ _) hM))); clear hM hkey)
    | (go_at_call 8; refine (hcmp _ _ _ ((il_new w2 [1, 2] 2 rfl).more (more_alloc _ _)) (il_snd w2 [1, 2] [1, 3] 2 rfl)).mono ?_; rintro e w3 ⟨rfl, hw3⟩; have H3 := Hid.mk (show More w2 w3 from by rw [hw3]; exact More.trans (more_alloc _ _) (more_alloc _ _)); clear hw3 hcmp)
    | (go_at_call 10; refine (hbeh _ _ _ ((il_new w3 [2, 1] 2 rfl).more (more_alloc _ _)) (il_snd w3 [2, 1] [1, 2] 2 rfl)).mono ?_; rintro e w4 ⟨rfl, q, hw4⟩; have H4 := Hid.mk (show More w2 w4 from by rw [hw4]; exact More.trans H3.out (More.trans (More.trans (more_alloc _ _) (more_alloc _ _)) (More.drewN _ _))); clear hw4 hbeh)
    | (go_at_call 19; refine (hsam _ _ _ (H2.out.1.more (More.trans H4.out (More.trans (More.trans (more_alloc _ _) (more_alloc _ _)) (more_alloc _ _)))) (lit_two w4)).mono ?_; rintro e w5 ⟨rfl, q, hw5⟩; have H5 := Hid.mk (show More w4 w5 from by rw [hw5]; exact More.trans (More.trans (More.trans (more_alloc _ _) (more_alloc _ _)) (more_alloc _ _)) (More.drewN _ _)); clear hw5 hsam))
  go_ret
  exact ⟨rfl, More.trans H2.out.2 (More.trans H4.out H5.out)⟩
end Go.Proofs.Yteiegedffjkbeaa
