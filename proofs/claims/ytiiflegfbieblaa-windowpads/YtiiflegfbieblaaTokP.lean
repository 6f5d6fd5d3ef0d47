/-
  token's pieces, as a going over that may be left early. (Printed by gen_tokP.py.)
-/
import Derived.Test.YtiiflegfbieblaaTokG
import Derived.Test.YtiiflegfbieblaaRangeSet
namespace Go.Proofs.Ytiiflegfbieblaa
open Go.RowKit Go.Shelf
attribute [local go_sem] Oper.semAt_some

theorem pieces_call (n : Nat) (l : List UInt8) (w : World) : CallsIn Fence.wide n Try.prog 72 #[.string (bs l)] w fun e w' => e = .returned (.func (.func 76) #[] #[.pointer (some ⟨w.heap.size, 0, none⟩)]) ∧ w' = w.alloc (.cells #[.string (bs l)] 9) := by
  refine callsIn_of_wp Try.func72 rfl trivial ?_ rfl
  simp only [Try.ntmps72, List.size_toArray, List.length_cons, List.length_nil, Nat.reduceAdd, Nat.reduceSub, Array.replicate_succ, Array.replicate_zero, List.push_toArray, List.append_toArray, List.nil_append, List.cons_append]
  gi_wp2
  go_ret
  exact ⟨rfl, rfl⟩

abbrev encS (p : List UInt8) : Array Value := #[.string (bs p)]

set_option maxRecDepth 1000000 in
set_option maxHeartbeats 4000000 in
theorem pieces_in (n : Nat) (hn : 1 ≤ n) (Bs lo : Nat) (l : List UInt8) (hl : l.length ≤ 1000000) (w : World) :
    SeqSet Fence.wide n Try.prog 76 #[.pointer (some ⟨Bs, 0, none⟩)] encS lo (fun A => Boxed A Bs 9 (.string (bs l))) (fun xs => xs = pcs [] l) (fun pre => pre <+: pcs [] l) (pcs [] l).length w := by
  intro l2 J Jx W C0 hW hC0 hlo hJ hJx hKp hY h0
  have hsz : (bs l).size = l.length := bs_size l
  have hbx := hKp _ _ _ h0
  have cb := hbx.cell
  refine callsIn_of_wp Try.func76 rfl trivial ?_ rfl
  simp only [Try.ntmps76, List.size_toArray, List.length_cons, List.length_nil, Nat.reduceAdd, Nat.reduceSub, Array.replicate_succ, Array.replicate_zero, List.push_toArray, List.append_toArray, List.nil_append, List.cons_append]
  gi_wp2
  clear cb hbx
  gi_loopw [3, 8] (fun s k wr => ∃ (a i : Nat) (pre : List (List UInt8)) (C : Nat → Prop), s = .int .i64 a ∧ k = .int .i64 i ∧ J pre C wr ∧ Within C wr ∧ W.heap.size ≤ wr.heap.size ∧ ((i ≤ l.length ∧ a ≤ i ∧ pre ++ pcA l a i = pcs [] l) ∨ (i = l.length + 1 ∧ pre = pcs [] l)))
    (fun _ k _ => l.length + 1 - (intOf k).toNat)
  case atStart => exact ⟨0, 0, [], C0, rfl, rfl, h0, hC0, Nat.le_refl _, .inl ⟨by omega, Nat.le_refl _, by rw [List.nil_append, pcA_zero]⟩⟩
  case round =>
    obtain ⟨a, i, pre, C, rfl, rfl, hJs, hWi, hsW, (⟨hi, hai, hpre⟩ | ⟨rfl, rfl⟩)⟩ := hrel
    · have cb := (hKp _ _ _ hJs).cell
      have HP := Hid.mk hpre
      clear hpre h0
      by_cases hlt : i < l.length
      · have hlt' : i < (bs l).size := by omega
        obtain ⟨B, hB⟩ : ∃ B, bt l i = B := ⟨_, rfl⟩
        have hbt : ((bs l)[i]'hlt').toNat = B := by rw [bt_bs, hB]
        have hbl := fun w => tk_blank B w
        have H0 := Hid.mk hB
        clear hB
        cases hb : blkN B with
        | false =>
          rw [hb] at hbl
          have HQ := Hid.mk (show pre ++ pcA l a (i + 1) = pcs [] l by rw [← pcA_go hai hlt (by rw [H0.out]; exact hb)]; exact HP.out)
          clear hb H0
          have HJ := Hid.mk hJs
          clear hJs hY
          gi_wp2_with (refine ⟨trivial, ?_⟩; gi_at_call 66; refine (callsIn_wide.2 (hbl _)).mono ?_; rintro e w' ⟨rfl, hw'⟩; subst w')
          go_roundw
          case rel => exact ⟨a, i + 1, pre, C, rfl, by go_num, HJ.out, hWi, hsW, .inl ⟨by omega, by omega, HQ.out⟩⟩
          case measure => first | (simp [intOf]; done) | (simp [intOf]; omega)
        | true =>
          rw [hb] at hbl
          by_cases hai2 : a < i
          · have HQ := Hid.mk (show pre ++ cutL l a i :: pcA l (i + 1) (i + 1) = pcs [] l by rw [← pcA_cut hai2 hlt (by rw [H0.out]; exact hb)]; exact HP.out)
            clear hb H0 HP
            have hcut := tslice_mid l a i a i rfl rfl (by omega) (by omega)
            obtain ⟨x, hx⟩ : ∃ x, cutL l a i = x := ⟨_, rfl⟩
            rw [hx] at hcut HQ
            have hSp : pre ++ [x] <+: pcs [] l := ⟨pcA l (i + 1) (i + 1), by rw [List.append_assoc, List.singleton_append]; exact HQ.out⟩
            have hplen : pre.length < (pcs [] l).length := by have := hSp.length_le; simp at this; omega
            have HSp := Hid.mk hSp
            obtain ⟨fn, tmps, assign, body, hy, hRd⟩ := hY pre x wr C hSp hJs hWi hsW hplen
            dsimp only [encS] at hy
            clear hx hSp hplen hY hJs
            gi_wp2_with (refine ⟨trivial, ?_⟩; gi_at_call 66; refine (callsIn_wide.2 (hbl _)).mono ?_; rintro e w' ⟨rfl, hw'⟩; subst w')
            refine hRd.mono ?_
            clear hRd hy
            rintro e W3 ⟨C', (⟨rfl, hJ3, ho3⟩ | ⟨rfl, hJ3, ho3⟩)⟩
            · have HO := Hid.mk (And.intro hJ3 (And.intro (ho3.within hWi) (Nat.le_trans hsW ho3.size)))
              clear hJ3 ho3
              gi_wp2
              go_roundw
              case rel => exact ⟨i + 1, i + 1, pre ++ [x], C', by go_num, by go_num, HO.out.1, HO.out.2.1, HO.out.2.2, .inl ⟨by omega, Nat.le_refl _, by rw [List.append_assoc, List.singleton_append]; exact HQ.out⟩⟩
              case measure => first | (simp [intOf]; done) | (simp [intOf]; omega)
            · have HO := Hid.mk (And.intro hJ3 (ho3.within hWi))
              clear hJ3 ho3
              gi_wp2
              refine bodyPost_ret (results_none rfl _ _ _) rfl ?_
              exact ⟨⟨_, rfl⟩, .inr ⟨_, C', HSp.out, HO.out.1, HO.out.2⟩⟩
          · obtain rfl : a = i := by omega
            have HQ := Hid.mk (show pre ++ pcA l (a + 1) (a + 1) = pcs [] l by rw [← pcA_skip hlt (by rw [H0.out]; exact hb)]; exact HP.out)
            clear hb H0 HP
            have HJ := Hid.mk hJs
            clear hJs hY
            gi_wp2_with (refine ⟨trivial, ?_⟩; gi_at_call 66; refine (callsIn_wide.2 (hbl _)).mono ?_; rintro e w' ⟨rfl, hw'⟩; subst w')
            refine ⟨(fun _ h => by cases h), ?_⟩
            gi_wp2
            go_roundw
            case rel => exact ⟨a + 1, a + 1, pre, C, by go_num, by go_num, HJ.out, hWi, hsW, .inl ⟨by omega, by omega, HQ.out⟩⟩
            case measure => first | (simp [intOf]; done) | (simp [intOf]; omega)
      · have hil : l.length = i := by omega
        have hi1 : (i : Int) < (i : Int) + 1 := by omega
        have HL := Hid.mk (And.intro (@pcA_last l) (pcA_none l))
        rw [hil] at hsz HL hlt hl
        have hlen : i ≤ l.length := by omega
        have HIL := Hid.mk hil
        rw [hil]
        by_cases hai2 : a < i
        · have HQ := Hid.mk (show pre ++ [cutL l a i] = pcs [] l by rw [← HL.out.1 hai2]; exact HP.out)
          clear HP HL hil
          have hcut := tslice_mid l a i a i rfl rfl (by omega) (by omega)
          obtain ⟨x, hx⟩ : ∃ x, cutL l a i = x := ⟨_, rfl⟩
          rw [hx] at hcut HQ
          have hSp : pre ++ [x] <+: pcs [] l := ⟨[], by rw [List.append_nil]; exact HQ.out⟩
          have hplen : pre.length < (pcs [] l).length := by have := hSp.length_le; simp at this; omega
          have HSp := Hid.mk hSp
          obtain ⟨fn, tmps, assign, body, hy, hRd⟩ := hY pre x wr C hSp hJs hWi hsW hplen
          dsimp only [encS] at hy
          clear hx hSp hplen hY hJs
          gi_wp2
          refine ⟨trivial, ?_⟩
          gi_wp2
          refine hRd.mono ?_
          clear hRd hy
          rintro e W3 ⟨C', (⟨rfl, hJ3, ho3⟩ | ⟨rfl, hJ3, ho3⟩)⟩
          · have HO := Hid.mk (And.intro hJ3 (And.intro (ho3.within hWi) (Nat.le_trans hsW ho3.size)))
            clear hJ3 ho3
            gi_wp2
            go_roundw
            case rel => exact ⟨i + 1, i + 1, pre ++ [x], C', by go_num, by go_num, HO.out.1, HO.out.2.1, HO.out.2.2, .inr ⟨by have := HIL.out; omega, HQ.out⟩⟩
            case measure => first | (simp [intOf]; done) | (simp [intOf]; omega)
          · have HO := Hid.mk (And.intro hJ3 (ho3.within hWi))
            clear hJ3 ho3
            gi_wp2
            refine bodyPost_ret (results_none rfl _ _ _) rfl ?_
            exact ⟨⟨_, rfl⟩, .inr ⟨_, C', HSp.out, HO.out.1, HO.out.2⟩⟩
        · obtain rfl : a = i := by omega
          have HQ := Hid.mk (show pre = pcs [] l by have h := HP.out; rw [HL.out.2, List.append_nil] at h; exact h)
          clear HP HL hil
          have HJ := Hid.mk hJs
          clear hJs hY
          gi_wp2
          refine ⟨trivial, ?_⟩
          gi_wp2
          refine ⟨(fun _ h => by cases h), ?_⟩
          gi_wp2
          go_roundw
          case rel => exact ⟨a + 1, a + 1, pre, C, by go_num, by go_num, HJ.out, hWi, hsW, .inr ⟨by have := HIL.out; omega, HQ.out⟩⟩
          case measure => first | (simp [intOf]; done) | (simp [intOf]; omega)
    · have HJ := Hid.mk hJs
      clear hJs hY h0
      generalize l.length = n0 at *
      gi_wp2
      go_end0
      exact ⟨⟨_, rfl⟩, .inl ⟨_, C, rfl, HJ.out, hWi⟩⟩
end Go.Proofs.Ytiiflegfbieblaa
