/-
  WireReads, walked.
-/
import Derived.Test.YtlghcnobgpocjaaWireLawB
import Derived.Test.YtlghcnobgpocjaaWireLawC
namespace Go.Proofs.Ytlghcnobgpocjaa
open Go.RowKit

set_option linter.unusedSimpArgs false in
set_option maxHeartbeats 12800000 in
set_option maxRecDepth 1000000 in
theorem wireReads (l : List UInt8) (v : Value) (K : Nat) (pK : Nat → Int) (pV : Nat → Nat) (pN : Nat → Int) (pS : Nat → List UInt8) (w : World) (hll : l.length ≤ 9223372036854775807) (h : PRd w v K pK pV pN pS) (hf : Fine pV pN) (hK : K ≤ 9223372036854775807) :
    Calls Try.prog 4 #[.string (bs l), v] w fun e w' => e = .returned (.bool true) ∧ Below w.heap.size w w' := by
  have hlv := fun w => live_true w
  have hsz : (bs l).size = l.length := bs_size l
  by_cases hbig : 600 < l.length
  · obtain ⟨ao, cap, rfl⟩ := h.shape
    have hbig' : (600 : Int) < l.length := by omega
    clear h hf
    generalize l.length = n at *
    go_enter Try.func4, Try.ntmps4
    go_wp2_with (go_at_call 8; refine (hlv _).mono ?_; rintro e w1 ⟨rfl, hm⟩)
    go_ret
    exact ⟨rfl, hm⟩
  have hbig' : ¬ (600 : Int) < l.length := by omega
  by_cases hfew : Few K pS
  · have hl := law_long false v K pK pV pN pS w h hK (by simp [hfew])
    obtain ⟨ao, cap, rfl⟩ := h.shape
    have HH := Hid.mk (And.intro h hf)
    have ho := fun w => rd_open l (by omega) w
    have hK40 := hfew.1
    have HX := Hid.mk (fun (w1 : World) (hm : More w w1) => show XAt (w1.alloc (.cells #[.string (bs l), .int .i64 0] 38)) w.heap.size w1.heap.size (l.drop 0) 0 from
      ⟨hm.size, by simp; exact Nat.le_succ_of_le hm.size, by rw [List.drop_zero]; omega, heap_alloc_new _ _⟩)
    clear h hf hfew
    go_enter Try.func4, Try.ntmps4
    go_wp2_with (first
      | (go_at_call 7; refine hl.mono ?_; rintro e w' ⟨rfl, hw'⟩; subst w')
      | (go_at_call 11; refine (ho _).mono ?_; rintro e w1 ⟨rfl, ha, hb⟩; have H1 := Hid.mk (And.intro ha hb); clear ha hb))
    go_loopw [7] (fun i wr => ∃ k a E : Nat, k ≤ K ∧ i = .int .i64 k ∧ Hid (RdAt wr w.heap.size w.heap.size l a E ∧ XAt wr w.heap.size w1.heap.size (l.drop a) E ∧ More w wr)) (fun i _ => K - (intOf i).toNat)
    case atStart => exact ⟨0, 0, 0, by omega, rfl, Hid.mk ⟨H1.out.1.more (More.alloc _ _), HX.out w1 H1.out.2, More.trans H1.out.2 (More.alloc _ _)⟩⟩
    case round =>
      obtain ⟨k, a, E, hk, rfl, HR⟩ := hrel
      clear HX H1 ho hl
      by_cases hkK : k < K
      · obtain ⟨g, o, rfl, hp⟩ := HH.out.1.at hkK
        have hN := HH.out.2.n k
        have hrd := fun w' h hx => law_read w.heap.size w.heap.size w1.heap.size a E l (pK k) (pV k) (pN k) (pS k) w' h hx hN
        obtain ⟨c0, c1, c2, c3⟩ := hp wr HR.out.2.2
        have HC := Hid.mk hp
        unfold Both at hrd
        have hleft := fun a' E' w' h => rd_left w.heap.size w.heap.size a' E' l w' h
        have herr := fun a' E' w' h => rd_err w.heap.size w.heap.size a' E' l w' h
        clear hp hN HH hlv
        generalize pK k = kd at *
        generalize pV k = x at *
        generalize pN k = N at *
        generalize pS k = s at *
        go_wp2_with fail
        refine wp_region_any (by kernel_rfl) ?_
        change wpAny _ _ _ _ _ _ _ (World.drew _)
        refine wpAny_take (i := 0) (v := ?v0) rfl (by kernel_rfl) (by kernel_rfl) (by kernel_rfl) (fun _ _ _ h => h) (Or.inl ⟨by rfl, ?y0⟩) ?_
        case y0 => intro wq; (go_simp) <;> with_reducible rfl
        try simp only [Act.put, List.getElem_toArray, List.getElem_cons_zero, List.getElem_cons_succ, List.setIfInBounds_toArray, List.set_cons_zero, List.set_cons_succ]
        refine wpAny_take (i := 1) (v := ?v1) rfl (by kernel_rfl) (by kernel_rfl) (by kernel_rfl) (fun _ _ _ h => h) (Or.inl ⟨by rfl, ?y1⟩) ?_
        case y1 => intro wq; (go_simp) <;> with_reducible rfl
        try simp only [Act.put, List.getElem_toArray, List.getElem_cons_zero, List.getElem_cons_succ, List.setIfInBounds_toArray, List.set_cons_zero, List.set_cons_succ]
        refine wpAny_take (i := 2) (v := ?v2) rfl (by kernel_rfl) (by kernel_rfl) (by kernel_rfl) (fun _ _ _ h => h) (Or.inl ⟨by rfl, ?y2⟩) ?_
        case y2 => intro wq; (go_simp) <;> with_reducible rfl
        try simp only [Act.put, List.getElem_toArray, List.getElem_cons_zero, List.getElem_cons_succ, List.setIfInBounds_toArray, List.set_cons_zero, List.set_cons_succ]
        refine wpAny_take (i := 3) (v := ?v3) rfl (by kernel_rfl) (by kernel_rfl) (by kernel_rfl) (fun _ _ _ h => h) (Or.inl ⟨by rfl, ?y3⟩) ?_
        case y3 => intro wq; (go_simp) <;> with_reducible rfl
        try simp only [Act.put, List.getElem_toArray, List.getElem_cons_zero, List.getElem_cons_succ, List.setIfInBounds_toArray, List.set_cons_zero, List.set_cons_succ]
        refine wpAny_take (i := 4) (v := ?v4) rfl (by kernel_rfl) (by kernel_rfl) (by kernel_rfl) (fun _ _ _ h => h) (Or.inl ⟨by rfl, ?y4⟩) ?_
        case y4 => intro wq; (go_simp) <;> with_reducible rfl
        try simp only [Act.put, List.getElem_toArray, List.getElem_cons_zero, List.getElem_cons_succ, List.setIfInBounds_toArray, List.set_cons_zero, List.set_cons_succ]
        refine wpAny_ready (rs := [5]) (by kernel_rfl) (by simp) ?_
        refine AllReady.cons rfl (fun K5 hK5 => ?_) AllReady.nil
        go_simp
        refine hK5 _ _ ?_
        clear hK5 K5
        try simp only [Act.put, List.getElem_toArray, List.getElem_cons_zero, List.getElem_cons_succ, List.setIfInBounds_toArray, List.set_cons_zero, List.set_cons_succ]
        refine wpAny_ready (rs := [6]) (by kernel_rfl) (by simp) ?_
        refine AllReady.cons rfl (fun K6 hK6 => ?_) AllReady.nil
        go_simp
        go_wp2_with (go_at_call 12; refine (hrd _ (HR.out.1.more (More.drew _)) (HR.out.2.1.more (More.drew _))).mono ?_; rintro e w5 ⟨a', E', rfl, ha, hx, hb⟩; have hs5 : (bs (l.drop a')).size = (l.drop a').length := bs_size _; have hS5 : w5.cell? ⟨w1.heap.size, 0, none⟩ = some (.string (bs (l.drop a'))) ∧ w5.cell? ⟨w1.heap.size, 1, none⟩ = some (.int .i64 E') := ⟨(cells2 hx.mem).1, (cells2 hx.mem).2.1⟩; have H5 := Hid.mk (And.intro ha (And.intro hx (Below.trans (More.trans HR.out.2.2 (More.drew _)) hb))); clear ha hx hb hrd)
        refine wpAny_of_held (S := fun w' => w'.cell? ⟨w1.heap.size, 0, none⟩ = some (.string (bs (l.drop a'))) ∧ w'.cell? ⟨w1.heap.size, 1, none⟩ = some (.int .i64 E')) _ _ _ _ ?_
        try simp only [Act.put, List.getElem_toArray, List.getElem_cons_zero, List.getElem_cons_succ, List.setIfInBounds_toArray, List.set_cons_zero, List.set_cons_succ]
        refine wpAnyH_take (i := 7) (v := ?v7) rfl (by kernel_rfl) (by kernel_rfl) (by kernel_rfl) (fun _ _ _ h => h) (Or.inl ⟨by rfl, ?y7⟩) (by assumption) ?_
        case y7 => intro wq hSw; (try dsimp only at hSw); (go_simp) <;> with_reducible rfl
        try simp only [Act.put, List.getElem_toArray, List.getElem_cons_zero, List.getElem_cons_succ, List.setIfInBounds_toArray, List.set_cons_zero, List.set_cons_succ]
        refine wpAnyH_take (i := 8) (v := ?v8) rfl (by kernel_rfl) (by kernel_rfl) (by kernel_rfl) (fun _ _ _ h => h) (Or.inl ⟨by rfl, ?y8⟩) (by assumption) ?_
        case y8 => intro wq hSw; (try dsimp only at hSw); (go_simp) <;> with_reducible rfl
        try simp only [Act.put, List.getElem_toArray, List.getElem_cons_zero, List.getElem_cons_succ, List.setIfInBounds_toArray, List.set_cons_zero, List.set_cons_succ]
        refine wpAnyH_take (i := 9) (v := ?v9) rfl (by kernel_rfl) (by kernel_rfl) (by kernel_rfl) (fun _ _ _ h => h) (Or.inl ⟨by rfl, ?y9⟩) (by assumption) ?_
        case y9 => intro wq hSw; (try dsimp only at hSw); (go_simp) <;> with_reducible rfl
        try simp only [Act.put, List.getElem_toArray, List.getElem_cons_zero, List.getElem_cons_succ, List.setIfInBounds_toArray, List.set_cons_zero, List.set_cons_succ]
        refine wpAnyH_take (i := 11) (v := ?v11) rfl (by kernel_rfl) (by kernel_rfl) (by kernel_rfl) (fun _ _ _ h => h) (Or.inl ⟨by rfl, ?y11⟩) (by assumption) ?_
        case y11 => intro wq hSw; (try dsimp only at hSw); (go_simp) <;> with_reducible rfl
        try simp only [Act.put, List.getElem_toArray, List.getElem_cons_zero, List.getElem_cons_succ, List.setIfInBounds_toArray, List.set_cons_zero, List.set_cons_succ]
        refine wpAnyH_take (i := 12) (v := ?v12) rfl (by kernel_rfl) (by kernel_rfl) (by kernel_rfl) (fun _ _ _ h => h) (Or.inl ⟨by rfl, ?y12⟩) (by assumption) ?_
        case y12 => intro wq hSw; (try dsimp only at hSw); (go_simp) <;> with_reducible rfl
        try simp only [Act.put, List.getElem_toArray, List.getElem_cons_zero, List.getElem_cons_succ, List.setIfInBounds_toArray, List.set_cons_zero, List.set_cons_succ]
        refine wpAnyH_take (i := 13) (v := ?v13) rfl (by kernel_rfl) (by kernel_rfl) (by kernel_rfl) (fun _ _ _ h => h) (Or.inl ⟨by rfl, ?y13⟩) (by assumption) ?_
        case y13 => intro wq hSw; (try dsimp only at hSw); (go_simp) <;> with_reducible rfl
        try simp only [Act.put, List.getElem_toArray, List.getElem_cons_zero, List.getElem_cons_succ, List.setIfInBounds_toArray, List.set_cons_zero, List.set_cons_succ]
        refine wpAnyH_take (i := 14) (v := ?v14) rfl (by kernel_rfl) (by kernel_rfl) (by kernel_rfl) (fun _ _ _ h => h) (Or.inl ⟨by rfl, ?y14⟩) (by assumption) ?_
        case y14 => intro wq hSw; (try dsimp only at hSw); (go_simp) <;> with_reducible rfl
        try simp only [Act.put, List.getElem_toArray, List.getElem_cons_zero, List.getElem_cons_succ, List.setIfInBounds_toArray, List.set_cons_zero, List.set_cons_succ]
        refine wpAnyH_take (i := 15) (v := ?v15) rfl (by kernel_rfl) (by kernel_rfl) (by kernel_rfl) (fun _ _ _ h => h) (Or.inl ⟨by rfl, ?y15⟩) (by assumption) ?_
        case y15 => intro wq hSw; (try dsimp only at hSw); (go_simp) <;> with_reducible rfl
        try simp only [Act.put, List.getElem_toArray, List.getElem_cons_zero, List.getElem_cons_succ, List.setIfInBounds_toArray, List.set_cons_zero, List.set_cons_succ]
        refine wpAnyH_ready (rs := [10]) (by kernel_rfl) (by simp) ?_
        refine AllReadyH.cons rfl (fun K10 hK10 => ?_) AllReadyH.nil
        go_simp
        go_wp2_with (go_at_call 13; refine (hleft a' E' w5 H5.out.1).mono ?_; rintro e w6 ⟨rfl, m6, hw6⟩; have hS6 : w6.cell? ⟨w1.heap.size, 0, none⟩ = some (.string (bs (l.drop a'))) ∧ w6.cell? ⟨w1.heap.size, 1, none⟩ = some (.int .i64 E') := (by rw [hw6]; exact hS5); have H6 := Hid.mk hw6; clear hw6)
        refine hK10.out _ _ hS6 (fun hHeld => ?_)
        clear hK10 K10 hHeld hS5
        try simp only [Act.put, List.getElem_toArray, List.getElem_cons_zero, List.getElem_cons_succ, List.setIfInBounds_toArray, List.set_cons_zero, List.set_cons_succ]
        refine wpAnyH_take (i := 16) (v := ?v16) rfl (by kernel_rfl) (by kernel_rfl) (by kernel_rfl) (fun _ _ _ h => h) (Or.inl ⟨by rfl, ?y16⟩) (by assumption) ?_
        case y16 => intro wq hSw; (try dsimp only at hSw); (go_simp) <;> with_reducible rfl
        try simp only [Act.put, List.getElem_toArray, List.getElem_cons_zero, List.getElem_cons_succ, List.setIfInBounds_toArray, List.set_cons_zero, List.set_cons_succ]
        refine wpAnyH_take (i := 17) (v := ?v17) rfl (by kernel_rfl) (by kernel_rfl) (by kernel_rfl) (fun _ _ _ h => h) (Or.inl ⟨by rfl, ?y17⟩) (by assumption) ?_
        case y17 => intro wq hSw; (try dsimp only at hSw); (go_simp) <;> with_reducible rfl
        try simp only [Act.put, List.getElem_toArray, List.getElem_cons_zero, List.getElem_cons_succ, List.setIfInBounds_toArray, List.set_cons_zero, List.set_cons_succ]
        refine wpAnyH_take (i := 18) (v := ?v18) rfl (by kernel_rfl) (by kernel_rfl) (by kernel_rfl) (fun _ _ _ h => h) (Or.inl ⟨by rfl, ?y18⟩) (by assumption) ?_
        case y18 => intro wq hSw; (try dsimp only at hSw); (go_simp) <;> with_reducible rfl
        try simp only [Act.put, List.getElem_toArray, List.getElem_cons_zero, List.getElem_cons_succ, List.setIfInBounds_toArray, List.set_cons_zero, List.set_cons_succ]
        refine wpAnyH_take (i := 19) (v := ?v19) rfl (by kernel_rfl) (by kernel_rfl) (by kernel_rfl) (fun _ _ _ h => h) (Or.inl ⟨by rfl, ?y19⟩) (by assumption) ?_
        case y19 => intro wq hSw; (try dsimp only at hSw); (go_simp) <;> with_reducible rfl
        try simp only [Act.put, List.getElem_toArray, List.getElem_cons_zero, List.getElem_cons_succ, List.setIfInBounds_toArray, List.set_cons_zero, List.set_cons_succ]
        refine wpAnyH_take (i := 21) (v := ?v21) rfl (by kernel_rfl) (by kernel_rfl) (by kernel_rfl) (fun _ _ _ h => h) (Or.inl ⟨by rfl, ?y21⟩) (by assumption) ?_
        case y21 => intro wq hSw; (try dsimp only at hSw); (go_simp) <;> with_reducible rfl
        try simp only [Act.put, List.getElem_toArray, List.getElem_cons_zero, List.getElem_cons_succ, List.setIfInBounds_toArray, List.set_cons_zero, List.set_cons_succ]
        refine wpAnyH_take (i := 22) (v := ?v22) rfl (by kernel_rfl) (by kernel_rfl) (by kernel_rfl) (fun _ _ _ h => h) (Or.inl ⟨by rfl, ?y22⟩) (by assumption) ?_
        case y22 => intro wq hSw; (try dsimp only at hSw); (go_simp) <;> with_reducible rfl
        try simp only [Act.put, List.getElem_toArray, List.getElem_cons_zero, List.getElem_cons_succ, List.setIfInBounds_toArray, List.set_cons_zero, List.set_cons_succ]
        refine wpAnyH_take (i := 23) (v := ?v23) rfl (by kernel_rfl) (by kernel_rfl) (by kernel_rfl) (fun _ _ _ h => h) (Or.inl ⟨by rfl, ?y23⟩) (by assumption) ?_
        case y23 => intro wq hSw; (try dsimp only at hSw); (go_simp) <;> with_reducible rfl
        try simp only [Act.put, List.getElem_toArray, List.getElem_cons_zero, List.getElem_cons_succ, List.setIfInBounds_toArray, List.set_cons_zero, List.set_cons_succ]
        refine wpAnyH_take (i := 24) (v := ?v24) rfl (by kernel_rfl) (by kernel_rfl) (by kernel_rfl) (fun _ _ _ h => h) (Or.inl ⟨by rfl, ?y24⟩) (by assumption) ?_
        case y24 => intro wq hSw; (try dsimp only at hSw); (go_simp) <;> with_reducible rfl
        try simp only [Act.put, List.getElem_toArray, List.getElem_cons_zero, List.getElem_cons_succ, List.setIfInBounds_toArray, List.set_cons_zero, List.set_cons_succ]
        refine wpAnyH_ready (rs := [20]) (by kernel_rfl) (by simp) ?_
        refine AllReadyH.cons rfl (fun K20 hK20 => ?_) AllReadyH.nil
        go_simp
        go_wp2_with (go_at_call 14; refine (herr a' E' w6 (by rw [H6.out]; exact H5.out.1.more (More.drewN w5 m6))).mono ?_; rintro e w' ⟨rfl, hw'⟩; subst w')
        refine hK20.out _ _ hS6 (fun hHeld => ?_)
        clear hK20 K20 hHeld
        try simp only [Act.put, List.getElem_toArray, List.getElem_cons_zero, List.getElem_cons_succ, List.setIfInBounds_toArray, List.set_cons_zero, List.set_cons_succ]
        refine wpAnyH_take (i := 25) (v := ?v25) rfl (by kernel_rfl) (by kernel_rfl) (by kernel_rfl) (fun _ _ _ h => h) (Or.inl ⟨by rfl, ?y25⟩) (by assumption) ?_
        case y25 => intro wq hSw; (try dsimp only at hSw); (go_simp) <;> with_reducible rfl
        try simp only [Act.put, List.getElem_toArray, List.getElem_cons_zero, List.getElem_cons_succ, List.setIfInBounds_toArray, List.set_cons_zero, List.set_cons_succ]
        refine wpAnyH_take (i := 26) (v := ?v26) rfl (by kernel_rfl) (by kernel_rfl) (by kernel_rfl) (fun _ _ _ h => h) (Or.inl ⟨by rfl, ?y26⟩) (by assumption) ?_
        case y26 => intro wq hSw; (try dsimp only at hSw); (go_simp) <;> with_reducible rfl
        try simp only [Act.put, List.getElem_toArray, List.getElem_cons_zero, List.getElem_cons_succ, List.setIfInBounds_toArray, List.set_cons_zero, List.set_cons_succ]
        refine wpAnyH_done (by kernel_rfl) ?_ _
        have H7 := Hid.mk (And.intro (H5.out.1.more (More.drewN w5 m6)) (And.intro (H5.out.2.1.more (More.drewN w5 m6)) (More.trans H5.out.2.2 (More.drewN w5 m6))))
        rw [← H6.out] at H7
        clear H5 H6 hS6
        go_wp2
        exact ⟨⟨k + 1, a', E', by omega, by go_num, H7⟩, by simp [intOf]; omega⟩
      · obtain rfl : k = K := by omega
        have hend := rd_end w.heap.size w.heap.size a E l wr HR.out.1
        have hend2 := fun m => ref_end w.heap.size w1.heap.size E (l.drop a) (wr.drewN m) (HR.out.2.1.more (More.drewN wr m))
        generalize endE (l.drop a) E = q at *
        clear HH
        go_wp2_with (first
          | (go_at_call 15; refine hend.mono ?_; rintro e w6 ⟨rfl, m6, hw6⟩; subst w6)
          | (go_at_call 16; refine (hend2 _).mono ?_; rintro e w' ⟨rfl, hw'⟩; subst w')
          | (go_at_call 8; refine (hlv _).mono ?_; rintro e w7 ⟨rfl, hm⟩; have H7 := Hid.mk (More.trans (More.trans HR.out.2.2 (More.drewN wr m6)) hm); clear hm))
        go_ret
        exact ⟨rfl, H7.out⟩
  · have hl := law_long true v K pK pV pN pS w h hK (by simp [hfew])
    obtain ⟨ao, cap, rfl⟩ := h.shape
    clear h hf
    generalize l.length = n at *
    go_enter Try.func4, Try.ntmps4
    go_wp2_with (first
      | (go_at_call 7; refine hl.mono ?_; rintro e w' ⟨rfl, hw'⟩; subst w')
      | (go_at_call 8; refine (hlv _).mono ?_; rintro e w1 ⟨rfl, hm⟩))
    go_ret
    exact ⟨rfl, hm⟩

end Go.Proofs.Ytlghcnobgpocjaa
