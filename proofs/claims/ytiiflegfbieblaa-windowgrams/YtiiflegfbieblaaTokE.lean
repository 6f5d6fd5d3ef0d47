/-
  The document's Words, Join. (Printed by gen_tokE.py.)
-/
import Derived.Test.YtiiflegfbieblaaTokD
namespace Go.Proofs.Ytiiflegfbieblaa
open Go.RowKit

set_option maxRecDepth 1000000 in
set_option maxHeartbeats 8000000 in
theorem rf_words (l : List UInt8) (hl : l.length ≤ 1000000) (w : World) :
    Calls Try.prog 62 #[.string (bs l)] w fun e w' => ∃ v, e = .returned v ∧ Grow w v (wordsOf l) w' := by
  have hsz : (bs l).size = l.length := bs_size l
  have HL := Hid.mk (And.intro (pcA_zero l) (And.intro (@pcA_skip l) (And.intro (@pcA_word l) (And.intro (pcA_none l) (pcs_len l [])))))
  obtain ⟨i0, hi, hz0, hz1, hz2⟩ := info_parts Try.infoStr
  go_enter Try.func62, Try.ntmps62
  go_wp2
  go_loopw [3, 4] (fun v k wr => ∃ (i : Nat) (pre : List (List UInt8)), i ≤ l.length ∧ k = .int .i64 i ∧ pre ++ pcA l i i = pcs [] l ∧ Grow w v (wds pre) wr) (fun _ k _ => l.length - (intOf k).toNat)
  case atStart => exact ⟨0, [], by omega, rfl, by rw [List.nil_append]; exact HL.out.1, Grow.nil w⟩
  case round =>
    obtain ⟨i, pre, hi2, rfl, hpre, hG⟩ := hrel
    have hplen : (wds pre).length ≤ l.length := by
      have h1 := congrArg List.length hpre
      rw [List.length_append] at h1
      have h2 := HL.out.2.2.2.2
      have h3 := wds_len pre
      simp at h2
      omega
    have HP := Hid.mk hpre
    clear hpre
    have HB := Hid.mk (Nat.le_trans hplen hl)
    obtain ⟨ao, cap, rfl⟩ := hG.shape
    have HG := Hid.mk hG
    by_cases hlt : i < l.length
    · have hlt' : i < (bs l).size := by omega
      obtain ⟨B, hB⟩ : ∃ B, bt l i = B := ⟨_, rfl⟩
      have hbt : ((bs l)[i]'hlt').toNat = B := by rw [bt_bs, hB]
      have hbl := fun w => rf_blank B w
      have HS := Hid.mk (@HL.out.2.1 i hlt)
      rw [hB] at HS
      have H0 := Hid.mk hB
      clear hB hG hplen
      cases hb : blkN B with
      | true =>
        rw [hb] at hbl
        have HS2 := Hid.mk (HS.out hb)
        clear HS hb
        go_wp2_with (go_at_call 44; refine (hbl _).mono ?_; rintro e w' ⟨rfl, hw'⟩; subst w')
        go_roundw
        case rel => exact ⟨i + 1, pre, by omega, by go_num, by rw [← HS2.out]; exact HP.out, HG.out⟩
        case measure => simp [intOf]; omega
      | false =>
        rw [hb] at hbl
        have HF := Hid.mk (show blkN (bt l i) = false by rw [H0.out]; exact hb)
        clear HS hb H0
        go_wp2_with (go_at_call 44; refine (hbl _).mono ?_; rintro e w' ⟨rfl, hw'⟩; subst w')
        clear hbl hbt
        go_loop [5] (fun k => ∃ n : Nat, i + n ≤ l.length ∧ k = .int .i64 n ∧ ∀ j, j < n → blkN (bt l (i + j)) = false) (fun k => l.length - (intOf k).toNat)
        case atStart => exact ⟨0, by omega, rfl, fun j hj => by omega⟩
        case round =>
          obtain ⟨n, hn, rfl, hrun⟩ := hrel
          have HR := Hid.mk hrun
          clear hrun
          obtain ⟨M, hM⟩ : ∃ M, l.length - i = M := ⟨_, rfl⟩
          have hMi : (l.length : Int) - (i : Int) = (M : Int) := by omega
          have hwM : IntKind.i64.wrap (M : Int) = M := by rw [IntKind.wrap_i64]; omega
          obtain ⟨Q, hQ⟩ : ∃ Q, i + n = Q := ⟨_, rfl⟩
          have hQi : (i : Int) + (n : Int) = (Q : Int) := by omega
          have hwQ : IntKind.i64.wrap (Q : Int) = Q := by rw [IntKind.wrap_i64]; omega
          have HQ := Hid.mk (And.intro hQ hM)
          by_cases hnM : n < M
          · have hQlt : Q < l.length := by omega
            have hQlt' : Q < (bs l).size := by omega
            obtain ⟨C, hC⟩ : ∃ C, bt l Q = C := ⟨_, rfl⟩
            have hbt : ((bs l)[Q]'hQlt').toNat = C := by rw [bt_bs, hC]
            have hbl := fun w => rf_blank C w
            have HC := Hid.mk hC
            have hQ0 : (0 : Int) ≤ (Q : Int) := by omega
            clear hC
            cases hb : blkN C with
            | false =>
              rw [hb] at hbl
              have HN := Hid.mk (show ∀ j, j < n + 1 → blkN (bt l (i + j)) = false from fun j hj => by
                by_cases hjn : j = n
                · subst hjn; rw [HQ.out.1, HC.out]; exact hb
                · exact HR.out j (by omega))
              have HM := Hid.mk (show i + (n + 1) ≤ l.length by omega)
              clear hb hQ hM HR HC
              go_wp2_with (go_at_call 44; refine (hbl _).mono ?_; rintro e w' ⟨rfl, hw'⟩; subst w')
              exact ⟨⟨n + 1, HM.out, by go_num, HN.out⟩, by simp [intOf]; have := HM.out; omega⟩
            | true =>
              rw [hb] at hbl
              have hn0 : 0 < n := Nat.pos_of_ne_zero fun e => by
                have h1 := HF.out
                subst e
                have h2 := HC.out
                rw [← hQ, Nat.add_zero] at h2
                rw [h2, hb] at h1; cases h1
              have HK0 := Hid.mk (HL.out.2.2.1 hn0 hn HR.out (.inr ⟨by omega, by rw [HQ.out.1, HC.out]; exact hb⟩))
              clear hb HR HC
              have hcut := tslice_mid l i Q i Q rfl rfl (by omega) (by omega)
              obtain ⟨p, hp⟩ : ∃ p, cutL l i Q = p := ⟨_, rfl⟩
              have hpl : p.length = n := by rw [← hp, cutL_len l (by omega) (by omega)]; omega
              have HK := Hid.mk (show i + n ≤ l.length ∧ pcA l i i = p :: pcA l Q Q ∧ i + n = Q by
                have h := HK0.out
                rw [hQ, hp] at h
                exact ⟨by omega, h, hQ⟩)
              have HN0 := Hid.mk hn0
              rw [hp] at hcut
              clear hp HK0 hQ hM
              by_cases hbig : 255 < n
              · have hbig' : (255 : Int) < (n : Int) := by omega
                have hm0 : isMark p = false := by rw [← wd1_mark]; unfold wd1; rw [if_pos (by omega)]; decide
                have HW := Hid.mk (show wds (pre ++ [p]) = wds pre ++ [unkW] by rw [wds_word pre hm0]; unfold wd1; rw [if_pos (by omega)])
                have hmk : ∀ w, Calls Try.prog 45 #[.string (bs unkW)] w fun e w' => e = .returned (.bool false) ∧ w' = w := fun w => rf_mark unkW w
                clear hm0 hpl
                go_wp2_with (first
                  | (go_at_call 44; refine (hbl _).mono ?_; rintro e w' ⟨rfl, hw'⟩; subst w')
                  | (go_at_call 45; refine (hmk _).mono ?_; rintro e w' ⟨rfl, hw'⟩; subst w')
                  | (at_builtin; refine wpList_append_own_at _ rfl (.tmp 45) (.tmp 47) 22 rfl w.heap.size 9 i0 (.string ⟨#[]⟩) 1 16 Try.underlying22 hi hz0 hz1 hz2 rfl (by decide) _ _ _ rfl (HG.out.row.alloc _) ⟨wr.heap.size, 0, none⟩ 1 1 [.string (bs unkW)] rfl rfl (one_cell _ (.string (bs unkW)) _) (one_str _) ?c3 ?c4 ?c5 ?_))
                case c3 => have := HB.out; unfold maxLen; omega
                case c4 => have := HB.out; omega
                case c5 => have := HG.out.more.size; simp; omega
                intro v' w4 hown4 hgrow _ _
                have HN := Hid.mk (HG.out.app (more_alloc _ _) hown4 hgrow)
                obtain ⟨ao4, cap4, rfl⟩ := wshape_of hown4
                clear hown4 hgrow
                go_wp2
                go_roundw
                case rel => exact ⟨i + n, pre ++ [p], by have := HK.out.1; omega, by have := HK.out.2.2; go_num, by rw [List.append_assoc, List.singleton_append, HK.out.2.2, ← HK.out.2.1]; exact HP.out, by rw [HW.out]; exact HN.out⟩
                case measure => have := HK.out; simp [intOf]; omega
              · have hbig' : ¬ (255 : Int) < (n : Int) := by omega
                have hmk := fun w => rf_mark p w
                cases hm : isMark p with
                | true =>
                  rw [hm] at hmk
                  have HW := Hid.mk (show wds (pre ++ [p]) = wds pre from wds_mark pre hm)
                  clear hm hpl
                  go_wp2_with (first
                    | (go_at_call 44; refine (hbl _).mono ?_; rintro e w' ⟨rfl, hw'⟩; subst w')
                    | (go_at_call 45; refine (hmk _).mono ?_; rintro e w' ⟨rfl, hw'⟩; subst w'))
                  go_roundw
                  case rel => exact ⟨i + n, pre ++ [p], by have := HK.out.1; omega, by have := HK.out.2.2; go_num, by rw [List.append_assoc, List.singleton_append, HK.out.2.2, ← HK.out.2.1]; exact HP.out, by rw [HW.out]; exact HG.out⟩
                  case measure => have := HK.out; have := HN0.out; simp [intOf]; omega
                | false =>
                  rw [hm] at hmk
                  have HW := Hid.mk (show wds (pre ++ [p]) = wds pre ++ [p] by rw [wds_word pre hm]; unfold wd1; rw [if_neg (by omega)])
                  clear hm hpl
                  go_wp2_with (first
                    | (go_at_call 44; refine (hbl _).mono ?_; rintro e w' ⟨rfl, hw'⟩; subst w')
                    | (go_at_call 45; refine (hmk _).mono ?_; rintro e w' ⟨rfl, hw'⟩; subst w')
                    | (at_builtin; refine wpList_append_own_at _ rfl (.tmp 45) (.tmp 47) 22 rfl w.heap.size 9 i0 (.string ⟨#[]⟩) 1 16 Try.underlying22 hi hz0 hz1 hz2 rfl (by decide) _ _ _ rfl (HG.out.row.alloc _) ⟨wr.heap.size, 0, none⟩ 1 1 [.string (bs p)] rfl rfl (one_cell _ (.string (bs p)) _) (one_str _) ?c3 ?c4 ?c5 ?_))
                  case c3 => have := HB.out; unfold maxLen; omega
                  case c4 => have := HB.out; omega
                  case c5 => have := HG.out.more.size; simp; omega
                  intro v' w4 hown4 hgrow _ _
                  have HN := Hid.mk (HG.out.app (more_alloc _ _) hown4 hgrow)
                  obtain ⟨ao4, cap4, rfl⟩ := wshape_of hown4
                  clear hown4 hgrow
                  go_wp2
                  go_roundw
                  case rel => exact ⟨i + n, pre ++ [p], by have := HK.out.1; omega, by have := HK.out.2.2; go_num, by rw [List.append_assoc, List.singleton_append, HK.out.2.2, ← HK.out.2.1]; exact HP.out, by rw [HW.out]; exact HN.out⟩
                  case measure => have := HK.out; simp [intOf]; omega
          · have hn0 : 0 < n := by omega
            have HK0 := Hid.mk (HL.out.2.2.1 hn0 hn HR.out (.inl (by omega)))
            have hnM2 : ¬ (n : Int) < (M : Int) := by omega
            clear HR
            have hcut := tslice_mid l i Q i Q rfl rfl (by omega) (by omega)
            obtain ⟨p, hp⟩ : ∃ p, cutL l i Q = p := ⟨_, rfl⟩
            have hpl : p.length = n := by rw [← hp, cutL_len l (by omega) (by omega)]; omega
            have HK := Hid.mk (show i + n ≤ l.length ∧ pcA l i i = p :: pcA l Q Q ∧ i + n = Q by
              have h := HK0.out
              rw [hQ, hp] at h
              exact ⟨by omega, h, hQ⟩)
            have HN0 := Hid.mk hn0
            rw [hp] at hcut
            clear hp HK0 hQ hM
            by_cases hbig : 255 < n
            · have hbig' : (255 : Int) < (n : Int) := by omega
              have hm0 : isMark p = false := by rw [← wd1_mark]; unfold wd1; rw [if_pos (by omega)]; decide
              have HW := Hid.mk (show wds (pre ++ [p]) = wds pre ++ [unkW] by rw [wds_word pre hm0]; unfold wd1; rw [if_pos (by omega)])
              have hmk : ∀ w, Calls Try.prog 45 #[.string (bs unkW)] w fun e w' => e = .returned (.bool false) ∧ w' = w := fun w => rf_mark unkW w
              clear hm0 hpl
              go_wp2_with (first
                | (go_at_call 45; refine (hmk _).mono ?_; rintro e w' ⟨rfl, hw'⟩; subst w')
                | (at_builtin; refine wpList_append_own_at _ rfl (.tmp 45) (.tmp 47) 22 rfl w.heap.size 9 i0 (.string ⟨#[]⟩) 1 16 Try.underlying22 hi hz0 hz1 hz2 rfl (by decide) _ _ _ rfl (HG.out.row.alloc _) ⟨wr.heap.size, 0, none⟩ 1 1 [.string (bs unkW)] rfl rfl (one_cell _ (.string (bs unkW)) _) (one_str _) ?c3 ?c4 ?c5 ?_))
              case c3 => have := HB.out; unfold maxLen; omega
              case c4 => have := HB.out; omega
              case c5 => have := HG.out.more.size; simp; omega
              intro v' w4 hown4 hgrow _ _
              have HN := Hid.mk (HG.out.app (more_alloc _ _) hown4 hgrow)
              obtain ⟨ao4, cap4, rfl⟩ := wshape_of hown4
              clear hown4 hgrow
              go_wp2
              go_roundw
              case rel => exact ⟨i + n, pre ++ [p], by have := HK.out.1; omega, by have := HK.out.2.2; go_num, by rw [List.append_assoc, List.singleton_append, HK.out.2.2, ← HK.out.2.1]; exact HP.out, by rw [HW.out]; exact HN.out⟩
              case measure => have := HK.out; simp [intOf]; omega
            · have hbig' : ¬ (255 : Int) < (n : Int) := by omega
              have hmk := fun w => rf_mark p w
              cases hm : isMark p with
              | true =>
                rw [hm] at hmk
                have HW := Hid.mk (show wds (pre ++ [p]) = wds pre from wds_mark pre hm)
                clear hm hpl
                go_wp2_with (first
                  | (go_at_call 45; refine (hmk _).mono ?_; rintro e w' ⟨rfl, hw'⟩; subst w'))
                go_roundw
                case rel => exact ⟨i + n, pre ++ [p], by have := HK.out.1; omega, by have := HK.out.2.2; go_num, by rw [List.append_assoc, List.singleton_append, HK.out.2.2, ← HK.out.2.1]; exact HP.out, by rw [HW.out]; exact HG.out⟩
                case measure => have := HK.out; have := HN0.out; simp [intOf]; omega
              | false =>
                rw [hm] at hmk
                have HW := Hid.mk (show wds (pre ++ [p]) = wds pre ++ [p] by rw [wds_word pre hm]; unfold wd1; rw [if_neg (by omega)])
                clear hm hpl
                go_wp2_with (first
                  | (go_at_call 45; refine (hmk _).mono ?_; rintro e w' ⟨rfl, hw'⟩; subst w')
                  | (at_builtin; refine wpList_append_own_at _ rfl (.tmp 45) (.tmp 47) 22 rfl w.heap.size 9 i0 (.string ⟨#[]⟩) 1 16 Try.underlying22 hi hz0 hz1 hz2 rfl (by decide) _ _ _ rfl (HG.out.row.alloc _) ⟨wr.heap.size, 0, none⟩ 1 1 [.string (bs p)] rfl rfl (one_cell _ (.string (bs p)) _) (one_str _) ?c3 ?c4 ?c5 ?_))
                case c3 => have := HB.out; unfold maxLen; omega
                case c4 => have := HB.out; omega
                case c5 => have := HG.out.more.size; simp; omega
                intro v' w4 hown4 hgrow _ _
                have HN := Hid.mk (HG.out.app (more_alloc _ _) hown4 hgrow)
                obtain ⟨ao4, cap4, rfl⟩ := wshape_of hown4
                clear hown4 hgrow
                go_wp2
                go_roundw
                case rel => exact ⟨i + n, pre ++ [p], by have := HK.out.1; omega, by have := HK.out.2.2; go_num, by rw [List.append_assoc, List.singleton_append, HK.out.2.2, ← HK.out.2.1]; exact HP.out, by rw [HW.out]; exact HN.out⟩
                case measure => have := HK.out; simp [intOf]; omega
    · obtain rfl : i = l.length := by omega
      have HE := Hid.mk (show wds pre = wordsOf l by
        have h := HP.out
        rw [HL.out.2.2.2.1, List.append_nil] at h
        unfold wordsOf; rw [h])
      have HV := Hid.mk (show Grow w _ (wordsOf l) wr by rw [← HE.out]; exact HG.out)
      clear hG HG HL HP
      generalize l.length = n at *
      go_wp2
      go_ret
      exact ⟨_, rfl, HV.out⟩
end Go.Proofs.Ytiiflegfbieblaa
