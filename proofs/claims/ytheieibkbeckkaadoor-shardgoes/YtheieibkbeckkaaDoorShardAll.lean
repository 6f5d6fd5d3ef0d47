/-
  shard's All, walked: the numbers of a sequence, each with its place, as long as it is told to go on.
-/
import Derived.Test.YtheieibkbeckkaaDoorShardG
import Derived.Test.YtheieibkbeckkaaDoorEliasAll
import Derived.Test.YtheieibkbeckkaaDoorAnyDet
namespace Go.Proofs.YtheieibkbeckkaaDoor
open Go.RowKit Go.Shelf
attribute [local go_sem] Oper.semAt_some

theorem shall_call (n q : Nat) (w : World) : CallsIn Fence.wide n Tryd.prog 7 #[.pointer (some ⟨q, 0, none⟩)] w fun e w' => e = .returned (.func (.func 14) #[] #[.pointer (some ⟨w.heap.size, 0, none⟩)]) ∧ w' = w.alloc (.cells #[.pointer (some ⟨q, 0, none⟩)] 25) := by
  refine callsIn_of_wp Tryd.func7 rfl trivial ?_ rfl
  simp only [Tryd.ntmps7, List.size_toArray, List.length_cons, List.length_nil, Nat.reduceAdd, Nat.reduceSub, Array.replicate_succ, Array.replicate_zero, List.push_toArray, List.append_toArray, List.nil_append, List.cons_append]
  gi_wp2
  go_ret
  exact ⟨rfl, rfl⟩

/-- The next one of a list that goes on. -/
theorem next_of {f : Nat → Nat} {pre : List (Int × Int)} {x1 x2 : Int} {c : Nat} (h : pre ++ [(x1, x2)] = allZ f c) : c = pre.length + 1 ∧ x1 = (pre.length : Int) ∧ x2 = (f pre.length : Int) := by
  have hl := congrArg List.length h
  rw [allZ_len] at hl
  simp at hl
  subst hl
  rw [allZ_succ] at h
  have := (List.append_inj' h rfl).2
  simp at this
  exact ⟨rfl, this.1, this.2⟩

set_option maxRecDepth 1000000 in
set_option maxHeartbeats 4000000 in
theorem shall_in (n : Nat) (hn : 16 ≤ n) (Bs base q : Nat) (f : Nat → Nat) (N : Nat) (wA : World) (hA : ShAt wA base q f N) (hT : TabIn wA) :
    SeqOwn Fence.wide n Tryd.prog 14 #[.pointer (some ⟨Bs, 0, none⟩)] encP wA.heap.size (fun A => Boxed A Bs 25 (.pointer (some ⟨q, 0, none⟩))) (fun xs => xs = allZ f N) (fun pre => ∃ c, c ≤ N ∧ pre = allZ f c) N wA := by
  intro l J Jx W hW hlo hJ hJx hKp hY h0
  have bs := hKp _ _ h0
  have h1 : 1 ≤ n := by omega
  have hNb := hA.num
  obtain ⟨w0, hw0⟩ : ∃ w0, W.alloc (.cells #[.func (.yield l) #[] #[]] 48) = w0 := ⟨_, rfl⟩
  have hm0 : More W w0 := by rw [← hw0]; exact more_alloc _ _
  have b2 : Boxed w0 W.heap.size 48 (.func (.yield l) #[] #[]) := by rw [← hw0]; exact Boxed.new _ _ _
  have hs0 : w0.heap.size = W.heap.size + 1 := by rw [← hw0]; simp
  have hA0 := More.trans hW hm0
  have cs := (boxed_more bs hm0).cell
  obtain ⟨s, ap, cap, pv, c1A, c2A, hs, hp⟩ := hA.rd0
  have c0A := hA.cells
  have lq := World.block_lt_of_cell? wA _ c0A
  have c1 := (hA0.cell (p := ⟨q, 1, none⟩) lq).trans c1A
  have hseq := eall_in (n - 1) (by omega) (W.heap.size + 1) base s (frs f) (prts N) wA hs hT
  have HH := Hid.mk (And.intro hA.climbs (And.intro hp (And.intro c0A (And.intro c2A (And.intro b2 (And.intro hm0 (And.intro hA0 hs0)))))))
  clear hA hT hs hp c0A c2A b2 hm0 hA0 c1A bs
  refine callsIn_of_wp_marks Tryd.func14 rfl trivial ?_ rfl
  simp only [Tryd.ntmps14, List.size_toArray, List.length_cons, List.length_nil, Nat.reduceAdd, Nat.reduceSub, Array.replicate_succ, Array.replicate_zero, List.push_toArray, List.append_toArray, List.nil_append, List.cons_append]
  gi_wp2_with (refine ⟨trivial, ?_⟩; gi_at_call 15; refine (eall_call _ _ _).mono ?_; rintro e w' ⟨rfl, hw'⟩; subst w')
  obtain ⟨w1, hw1⟩ : ∃ w1, w0.alloc (.cells #[.pointer (some ⟨s, 0, none⟩)] 39) = w1 := ⟨_, rfl⟩
  have hm1 : More w0 w1 := by rw [← hw1]; exact more_alloc _ _
  have hs1 : w1.heap.size = W.heap.size + 2 := by rw [← hw1]; simp [hs0]
  have bd : Boxed w1 (W.heap.size + 1) 39 (.pointer (some ⟨s, 0, none⟩)) := by rw [← hw1, ← hs0]; exact Boxed.new _ _ _
  have hA1 := More.trans HH.out.2.2.2.2.2.2.1 hm1
  have hW1 := More.trans HH.out.2.2.2.2.2.1 hm1
  have b21 := boxed_more HH.out.2.2.2.2.1 hm1
  rw [hw1]
  have HC := Hid.mk (And.intro HH.out.1 (And.intro HH.out.2.1 (And.intro HH.out.2.2.1 HH.out.2.2.2.1)))
  clear hw1 hw0 cs c1 HH
  refine range_own rfl h1 (gf := 24) (lb := #[.pointer (some ⟨W.heap.size + 1, 0, none⟩)]) rfl trivial (enters_of Tryd.func24 (by kernel_rfl) rfl)
    hseq (by omega) hA1 (fun _ => rfl)
    (fun pre V => J (allZ f (min N (32 * pre.length))) V ∧ Boxed V W.heap.size 48 (.func (.yield l) #[] #[]) ∧ Boxed V (W.heap.size + 1) 39 (.pointer (some ⟨s, 0, none⟩)) ∧ More wA V)
    (fun c _ V => c = .ret ∧ ∃ e, e ≤ N ∧ Jx (allZ f e) V)
    (fun s A A' h k => ⟨hJ _ _ _ h.1 (k.mono (by omega)), (k.block _ (by omega)).trans h.2.1, (k.block _ (by omega)).trans h.2.2.1, Below.trans h.2.2.2 (k.mono (by omega))⟩)
    (fun c s A A' h k => ⟨h.1, by obtain ⟨e, he, hx⟩ := h.2; exact ⟨e, he, hJx _ _ _ hx (k.mono (by omega))⟩⟩)
    (fun _ _ h => h.2.2.1) ⟨by rw [List.length_nil, Nat.mul_zero, Nat.min_zero]; exact hJ _ _ _ h0 hW1, b21, bd, hA1⟩
    (fun x => { tmps := #[.func (.yield l) #[] #[], .pointer (some ⟨Bs, 0, none⟩), .pointer (some ⟨W.heap.size, 0, none⟩), .int .i64 x.1, .int .i64 x.2, undef, undef, .pointer (some ⟨q, 0, none⟩), .bool false, .pointer (some ⟨q, 0, none⟩), .pointer (some ⟨q, 0, none⟩), .pointer (some ⟨q, 1, none⟩), .pointer (some ⟨s, 0, none⟩), .func (.func 24) #[] #[.pointer (some ⟨W.heap.size + 1, 0, none⟩)], .int .i64 x.1, .int .i64 x.2, undef, undef, undef, undef, undef, undef, undef, undef, undef, undef, undef, undef, undef, undef, undef, undef, undef, undef, undef, undef, undef, undef, undef, undef, undef, undef, undef, undef, undef, undef], defers := [] }) ?assign ?body ?done ?stop
  case assign =>
    intro l2 x V K' hK'
    gi_wp2
    exact hK'
  case body =>
    rintro l2 pre ⟨x1, x2⟩ V ⟨c, hc, hSp⟩ ⟨hJs, b2, b3, hM⟩ hsz hlen
    obtain ⟨rfl, rfl, rfl⟩ := next_of hSp
    clear hSp
    have hd : 1 ≤ n - 1 - 1 := by omega
    have hd2 : 1 ≤ n - 1 - 1 - 1 := by omega
    obtain ⟨k, hk⟩ : ∃ k, pre.length = k := ⟨_, rfl⟩
    rw [hk] at hJs hlen hc ⊢
    have hkn := prts_lt hlen
    obtain ⟨b, rfl, hcA, hpart⟩ := HC.out.2.1 k hlen
    have cB := (hKp _ _ hJs).cell
    have c0 := (hM.cell (p := ⟨q, 0, none⟩) lq).trans HC.out.2.2.1
    obtain ⟨A, hAk⟩ : ∃ A, 32 * k = A := ⟨_, rfl⟩
    obtain ⟨M, hMk⟩ : ∃ M, prtn N k = M := ⟨_, rfl⟩
    obtain ⟨X, hX⟩ : ∃ X, frs f k = X := ⟨_, rfl⟩
    rw [hX]
    have hmul : (k : Int) * 32 = (A : Int) := by omega
    have hwA : IntKind.i64.wrap (A : Int) = (A : Int) := by rw [IntKind.wrap_i64]; omega
    obtain ⟨R, hR⟩ : ∃ R, N - A = R := ⟨_, rfl⟩
    have hsub : (N : Int) - (A : Int) = (R : Int) := by omega
    have hwR : IntKind.i64.wrap (R : Int) = (R : Int) := by rw [IntKind.wrap_i64]; omega
    have hmin : min (32 : Int) (R : Int) = (M : Int) := by unfold prtn at hMk; omega
    have hM32 : M ≤ 32 := by rw [← hMk]; exact prtn_le _ _
    have hMA : A + M = min N (32 * (k + 1)) := by unfold prtn at hMk; omega
    rw [show min N (32 * k) = A by omega] at hJs
    have HK := Hid.mk (And.intro hk (And.intro hAk (And.intro hMk (And.intro hX (And.intro hMA (And.intro hcA hpart))))))
    have HV := Hid.mk (And.intro hJs (And.intro b2 (And.intro b3 hM)))
    clear hk hAk hMk hX hMA hcA hpart hJs b2 b3 hM hR
    gi_wp2
    gi_loopw [25, 6] (fun i _ wr => ∃ j : Nat, j ≤ M ∧ i = .int .i64 j ∧ Hid (J (allZ f (A + j)) wr ∧ Boxed wr W.heap.size 48 (.func (.yield l) #[] #[]) ∧ Boxed wr (W.heap.size + 1) 39 (.pointer (some ⟨s, 0, none⟩)) ∧ More wA wr ∧ Only wA.heap.size w1.heap.size V wr)) (fun i _ _ => M - (intOf i).toNat)
    case atStart => exact ⟨0, Nat.zero_le _, rfl, Hid.mk ⟨HV.out.1, HV.out.2.1, HV.out.2.2.1, HV.out.2.2.2, Only.refl _ _ _⟩⟩
    case round =>
      obtain ⟨j, hj, rfl, HR⟩ := hrel
      by_cases hjM : j < M
      · have hNk : A + j < N := by have := HK.out.2.1; have := HK.out.2.2.1; unfold prtn at this; omega
        obtain ⟨P, hP⟩ : ∃ P, A + j = P := ⟨_, rfl⟩
        have hPi : (A : Int) + (j : Int) = (P : Int) := by omega
        have hPN : P < N := by omega
        have hwP : IntKind.i64.wrap (P : Int) = (P : Int) := by rw [IntKind.wrap_i64]; omega
        have hats := (HK.out.2.2.2.2.2.2).ats j (by rw [HK.out.2.2.1]; exact hjM)
        have hval : X + pat (prt f k) (prtn N k) j = f P := by
          have := pat_is (prt_climbs HC.out.1 k) (j := j) (by rw [HK.out.2.2.1]; exact hjM)
          rw [show prt f k 0 = X from HK.out.2.2.2.1, show prt f k j = f P by unfold prt; rw [HK.out.2.1, hP]] at this
          exact this
        have htop := HC.out.1.top P (by omega)
        generalize pat (prt f k) (prtn N k) j = Y at *
        obtain ⟨Z, hZ⟩ : ∃ Z, f P = Z := ⟨_, rfl⟩
        rw [hZ] at hval htop
        have hXY : (X : Int) + (Y : Int) = (Z : Int) := by omega
        have hwZ : IntKind.i64.wrap (Z : Int) = (Z : Int) := by rw [IntKind.wrap_i64]; omega
        have hsc : allZ f (P + 1) = allZ f P ++ [((P : Int), (Z : Int))] := by rw [allZ_succ, hZ]
        obtain ⟨T, U, F, hpv, hF, hme, hat⟩ := hats
        have hcp := HK.out.2.2.2.2.2.1
        rw [hpv] at hcp
        have c2A := HC.out.2.2.2
        generalize hKN : prts N = KN at *
        have lb := World.block_lt_of_cell? wA _ hcp
        obtain ⟨hJr, hB2, hB3, hMr, hOr⟩ := HR.out
        rw [hP] at hJr
        have hcells : ∀ w', J (allZ f P) w' → More wr w' → w'.cell? ⟨W.heap.size, 0, none⟩ = some (.func (.yield l) #[] #[]) ∧ w'.cell? ⟨Bs, 0, none⟩ = some (.pointer (some ⟨q, 0, none⟩)) ∧ w'.cell? ⟨q, 2, none⟩ = some (.slice (some ⟨b, 0, none⟩) KN cap) ∧ w'.cell? ⟨b, k, none⟩ = some (.iface T U) := fun w' h1 h2 =>
          ⟨(boxed_more hB2 h2).cell, (hKp _ _ h1).cell, ((More.trans hMr h2).cell (p := ⟨q, 2, none⟩) lq).trans c2A, ((More.trans hMr h2).cell (p := ⟨b, k, none⟩) lb).trans hcp⟩
        have hJm : ∀ w' w'', J (allZ f P) w' → More wr w' → More w' w'' → J (allZ f P) w'' := fun w' w'' h1 h2 h3 => hJ _ _ _ h1 (h3.mono (by have := h2.size; have := hOr.size; omega))
        have HQ := Hid.mk (And.intro hJr (And.intro hB2 (And.intro hB3 (And.intro hMr (And.intro hOr (And.intro hZ (And.intro hP (And.intro hval hKN))))))))
        clear hJr hB2 hB3 hMr hOr hZ hval hpv hcp c2A lb hP hKN cB c0 hseq hm1 hA1 hW1 b21 bd
        rcases hF with rfl | rfl | rfl
        all_goals
          gi_wp2
          refine region_det 15 28 [.func (.yield l) #[] #[], .int .i64 A, .int .i64 j, .int .i64 P, .int .i64 X, .pointer (some ⟨q, 0, none⟩), .pointer (some ⟨q, 0, none⟩), .pointer (some ⟨q, 2, none⟩), .slice (some ⟨b, 0, none⟩) KN cap, .int .i64 k, .pointer (some ⟨b, k, none⟩), .iface T U, .int .i64 j, .int .i64 Y, .int .i64 Z]
            { tmps := #[.func (.yield l) #[] #[], .pointer (some ⟨Bs, 0, none⟩), .pointer (some ⟨W.heap.size, 0, none⟩), .int .i64 k, .int .i64 X, .int .i64 A, .int .i64 j, .pointer (some ⟨q, 0, none⟩), .bool false, .pointer (some ⟨q, 0, none⟩), .pointer (some ⟨q, 0, none⟩), .pointer (some ⟨q, 1, none⟩), .pointer (some ⟨s, 0, none⟩), .func (.func 24) #[] #[.pointer (some ⟨W.heap.size + 1, 0, none⟩)], .int .i64 k, .int .i64 X, .int .i64 k, .int .i64 A, .pointer (some ⟨q, 0, none⟩), .pointer (some ⟨q, 0, none⟩), .pointer (some ⟨q, 0, none⟩), .int .i64 N, .int .i64 A, .int .i64 R, .int .i64 M, .int .i64 j, .bool true, .int .i64 j,
              .func (.yield l) #[] #[], .int .i64 A, .int .i64 j, .int .i64 P, .int .i64 X, .pointer (some ⟨q, 0, none⟩), .pointer (some ⟨q, 0, none⟩), .pointer (some ⟨q, 2, none⟩), .slice (some ⟨b, 0, none⟩) KN cap, .int .i64 k, .pointer (some ⟨b, k, none⟩), .iface T U, .int .i64 j, .int .i64 Y, .int .i64 Z, u43, u44, u45], defers := [] }
            (fun w' => J (allZ f P) w' ∧ More wr w') (by kernel_rfl) (det_of (by kernel_rfl)) (by kernel_rfl) (Nat.le_of_ble_eq_true (by kernel_rfl)) ⟨hJm _ _ HQ.out.1 (Below.refl _ _) (More.drewN wr 1), More.drewN wr 1⟩ ?step ?fin
          case step =>
            rintro i hi w' ⟨hJw, hMw⟩
            obtain ⟨cY, cS, c2, c3⟩ := hcells w' hJw hMw
            rcases (show i = 0 ∨ i = 1 ∨ i = 2 ∨ i = 3 ∨ i = 4 ∨ i = 5 ∨ i = 6 ∨ i = 7 ∨ i = 8 ∨ i = 9 ∨ i = 10 ∨ i = 11 ∨ i = 12 ∨ i = 13 ∨ i = 14 by omega) with rfl | rfl | rfl | rfl | rfl | rfl | rfl | rfl | rfl | rfl | rfl | rfl | rfl | rfl | rfl
            case inr.inr.inr.inr.inr.inr.inr.inr.inr.inr.inr.inr.inr.inl =>
              refine wpOpIn_step rfl (fun K hK => ?_)
              go_simp
              refine ⟨trivial, (CallsIn.inRound l2 (callsIn_wide.2 (hat w' (More.trans HQ.out.2.2.2.1 hMw)))).mono ?_⟩
              rintro e w'' ⟨rfl, hm⟩
              exact hK _ _ ⟨rfl, rfl, hJm _ _ hJw hMw hm, More.trans hMw hm⟩
            all_goals
              refine wpOpIn_step rfl (fun K hK => ?_)
              go_simp
              exact hK _ _ ⟨rfl, rfl, hJw, hMw⟩
          case fin =>
            rintro w' ⟨hJw, hMw⟩
            obtain ⟨fn, tmps, assign, body, hy, hRd⟩ := hY (allZ f P) ((P : Int), (Z : Int)) w' ⟨P + 1, hPN, hsc.symm⟩ hJw (by have := hMw.size; have := HQ.out.2.2.2.2.1.size; omega) (by rw [allZ_len]; exact hPN)
            dsimp only [encP] at hy
            rw [← hsc] at hRd
            have hRd' := RoundIn.within (m' := n - 1 - 1 - 1) (l2 := l2) hRd
            clear hRd
            refine wpOpIn_step rfl (fun K hK => ?_)
            go_simp
            refine hRd'.mono ?_
            have hwV : W.heap.size ≤ w1.heap.size := by omega
            rintro e W3 (⟨rfl, hJ3, ho3⟩ | ⟨rfl, hJ3, ho3⟩)
            · refine hK _ _ (wpOpIn_step rfl (fun K2 hK2 => ?_))
              go_simp
              refine hK2 _ _ ?_
              have hM3 := More.trans HQ.out.2.2.2.1 hMw
              have HO := Hid.mk (show J (allZ f (A + (j + 1))) W3 ∧ Boxed W3 W.heap.size 48 (.func (.yield l) #[] #[]) ∧ Boxed W3 (W.heap.size + 1) 39 (.pointer (some ⟨s, 0, none⟩)) ∧ More wA W3 ∧ Only wA.heap.size w1.heap.size V W3 from
                ⟨by rw [show A + (j + 1) = P + 1 by have := HQ.out.2.2.2.2.2.2.1; omega]; exact hJ3, ho3.boxed (boxed_more HQ.out.2.1 hMw) (Nat.le_refl _), ho3.boxed (boxed_more HQ.out.2.2.1 hMw) (Nat.le_succ _), Below.trans hM3 (ho3.below hM3.size), HQ.out.2.2.2.2.1.trans ((Only.of_more hMw).trans (ho3.mono (Nat.le_refl _) hwV))⟩)
              clear hJ3 ho3 hM3 hK hK2 hRd' hy hJw hMw hcells hJm hY hat hme hsc
              gi_wp2
              exact ⟨⟨j + 1, by omega, by go_num, HO⟩, by simp [intOf]; omega⟩
            · refine hK _ _ (wpOpIn_step rfl (fun K2 hK2 => ?_))
              go_simp
              refine hK2 _ _ ?_
              have HO := Hid.mk (show Only 0 w1.heap.size V W3 ∧ ∃ e, e ≤ N ∧ Jx (allZ f e) W3 from
                ⟨(HQ.out.2.2.2.2.1.mono (Nat.zero_le _) (Nat.le_refl _)).trans ((Only.of_more hMw).trans (ho3.mono (Nat.le_refl _) hwV)), P + 1, hPN, hJ3⟩)
              clear hJ3 ho3 hK hK2 hRd' hy hJw hMw hcells hJm hY hat hme hsc
              gi_wp2
              exact ⟨HO.out.1, rfl, HO.out.2⟩
      · obtain rfl : j = M := by omega
        have hJe : J (allZ f (min N (32 * (pre ++ [((k : Int), (X : Int))]).length))) wr := by
          rw [List.length_append, List.length_singleton, HK.out.1, ← HK.out.2.2.2.2.1]; exact HR.out.1
        have HO := Hid.mk (And.intro HR.out.2.2.2.2 (And.intro hJe (And.intro HR.out.2.1 (And.intro HR.out.2.2.1 HR.out.2.2.2.1))))
        clear hJe hjM hj HR hY
        gi_wp2
        exact HO.out
  case done =>
    rintro D ys V hD rfl ⟨hJs, b2, b3, hM⟩ hKD
    rw [allZ_len, show min N (32 * prts N) = N by have := prts_le N; omega] at hJs
    gi_wp2
    exact leaves_marks (B := W.heap.size) (.cons (by omega) hKD (fun _ h => by cases h) .nil) fun w' hw' => ⟨_, results_none rfl _ _ _, ⟨_, rfl⟩, .inl ⟨_, rfl, hJ _ _ _ hJs hw'⟩⟩
  case stop =>
    rintro D cc pre V hD _ ⟨rfl, e, he, hjx⟩ hKD
    gi_wp2
    exact leaves_marks (B := W.heap.size) (.cons (by omega) hKD (fun _ h => by cases h) .nil) fun w' hw' => ⟨_, results_none rfl _ _ _, ⟨_, rfl⟩, .inr ⟨_, ⟨e, he, rfl⟩, hJx _ _ _ hjx hw'⟩⟩

end Go.Proofs.YtheieibkbeckkaaDoor
