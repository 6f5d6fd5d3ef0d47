/-
  DirMarks walked.
-/
import Derived.Test.YtmnkbdkhpnokgaaDirLawB
import Derived.Deep.RegionHeld
namespace Go.Proofs.Ytmnkbdkhpnokgaa
open Go.RowKit

/-- The blocks from B on that were there are as they were. -/
def Stays (B : Nat) (w w' : World) : Prop := ∀ k, B ≤ k → k < w.heap.size → w'.heap[k]? = w.heap[k]?
theorem own_stays {B base n : Nat} {w w' : World} {e : TypeId} {v : Value} {xs : List Value} (h : w.ownsRow base e 1 v n xs) (hB : B ≤ base) (k : Stays B w w') : w'.ownsRow base e 1 v n xs := by
  refine ⟨h.1, ?_⟩
  rcases h.2 with h2 | ⟨g, cap, cur, hv, hb, hg, hr⟩
  · exact .inl h2
  · exact .inr ⟨g, cap, cur, hv, hb, by rw [k g (Nat.le_trans hB hb) (lt_of_block hg)]; exact hg, hr⟩
theorem DirAt.stays {B base d V n : Nat} {w w' : World} (h : DirAt w base d V n) (hB : B ≤ base) (k : Stays B w w') : DirAt w' base d V n := by
  obtain ⟨v, hlo, m, hb, hv, hm⟩ := h.mem
  exact ⟨h.fit, h.len, v, hlo, m, by rw [k d (Nat.le_trans hB hlo) (lt_of_block hb)]; exact hb, own_stays hv hB k, own_stays hm hB k⟩
theorem More.stays {w w' : World} (k : More w w') : Stays 0 w w' := fun j _ hj => k.block j hj
theorem DirAt.more {base d V n : Nat} {w w' : World} (h : DirAt w base d V n) (k : More w w') : DirAt w' base d V n := h.stays (Nat.zero_le _) k.stays

/-- The blocks of a row that was there in w2 lie below w2's end. -/
theorem rowBlk_lt {w2 w : World} {base b V n k : Nat} (h : RowAt w2 base b V n) (hm : More w2 w) (hk : RowBlk w b k) : k < w2.heap.size := by
  obtain ⟨v, hb, hown⟩ := h.mem
  rcases hk with rfl | ⟨v', y, hb', hv⟩
  · exact lt_of_block hb
  · rw [hm.block b (lt_of_block hb), hb] at hb'
    simp at hb'
    obtain ⟨rfl, _⟩ := hb'
    exact (hown.lt k hv).2

/-- What lies above the row is as it was behind an Add, and behind stores above C. -/
theorem stays_add {w2 w6 w7 w8 w9 : World} {base b V n : Nat} (h : RowAt w2 base b V n) (h26 : More w2 w6) (h67 : More w6 w7) (h78 : KeepsO base (RowBlk w7 b) w7 w8) (h89 : Below w6.heap.size w8 w9) : Stays w2.heap.size w6 w9 := by
  intro k hB hk
  have h27 := More.trans h26 h67
  rw [h89.block k hk, h78.only k (Nat.lt_of_lt_of_le hk h67.size) (fun hb => by have := rowBlk_lt h h27 hb; omega), h67.block k hk]

theorem held_more {wA w' w'' : World} {p : Addr} {u : Value} (h : More wA w' ∧ w'.cell? p = some u) (k : More w' w'') : More wA w'' ∧ w''.cell? p = some u :=
  ⟨More.trans h.1 k, (k.cell (World.block_lt_of_cell? w' _ h.2)).trans h.2⟩
theorem lit_ird (w : World) : IRd (w.alloc (.cells #[.int .i64 0] 3)) (.slice (some ⟨w.heap.size, 0, none⟩) 1 1) 1 (fun _ => 0) :=
  .inr ⟨_, _, rfl, by simp, fun j hj => by match j, hj with | 0, _ => simp⟩
theorem more_alloc (w : World) (o : Obj) : More w (w.alloc o) := (Below.refl _ w).alloc (Nat.le_refl _) o

theorem lt_pow64 {x : Nat} (h : x < 18446744073709551616) : x < 2 ^ 64 := h

set_option maxHeartbeats 1600000 in
set_option maxRecDepth 1000000 in
theorem dirMarks (v : Value) (L T x N y : Nat) (f : Nat → Nat) (w : World) (h : Rd w v L f) (hf : ∀ j, j < L → f j < 18446744073709551616) (hL : L ≤ 9223372036854775807) (hT : T ≤ 255) (hx : x < 18446744073709551616) (hN : N ≤ 255) (hy : y < 18446744073709551616) :
    Calls Try.prog 4 #[caseV v T x N, .int .u64 y] w fun e w' => e = .returned (.bool true) ∧ More w w' := by
  obtain ⟨ao, cap, rfl⟩ := h.shape
  obtain ⟨w0, hw0⟩ : ∃ w0, (w.alloc (.cells #[.slice ao L cap, .int .u8 T, .int .u64 x, .int .u8 N] 25)) = w0 := ⟨_, rfl⟩
  have hm0 : More w w0 := by rw [← hw0]; exact (Below.refl _ w).alloc (Nat.le_refl _) _
  have hc0 : CaseAt w0 w.heap.size (.slice ao L cap) T x N := by rw [← hw0]; exact CaseAt.new w _ _ _ _
  have hs := small ao L cap T x N w0 hL hT hN
  have H0 := Hid.mk (And.intro h (And.intro hf (And.intro hm0 hc0)))
  obtain ⟨c0, c1, c2, c3⟩ := hc0
  clear h hf hm0
  by_cases hS : L ≤ 6 ∧ T ≤ 40 ∧ N ≤ 64
  · rw [decide_eq_true hS] at hs
    obtain ⟨s1, s2, s3⟩ := hS
    obtain ⟨V, hV⟩ : ∃ V, rowV f L T x N = V := ⟨_, rfl⟩
    obtain ⟨n, hn⟩ : ∃ n, rowN L T N = n := ⟨_, rfl⟩
    have hnb : n ≤ 15424 := by rw [← hn]; exact rowN_le s1 s2 s3
    have hrow : ∀ w1, More w0 w1 → Calls Try.prog 9 #[caseV (.slice ao L cap) T x N] w1 fun e w' => ∃ b, e = .returned (.pointer (some ⟨b, 0, none⟩)) ∧ RowAt w' w1.heap.size b V n ∧ More w1 w' := fun w1 hm => by
      rw [← hV, ← hn]; exact law_row _ L T x N f w1 (H0.out.1.more (More.trans H0.out.2.2.1 hm)) H0.out.2.1 s1 s2 hx s3
    have hbits : ∀ w1, More w0 w1 → Calls Try.prog 10 #[caseV (.slice ao L cap) T x N] w1 fun e w' => ∃ v', e = .returned v' ∧ w'.ownsRow w1.heap.size 4 1 v' n (bools V n) ∧ More w1 w' := fun w1 hm => by
      rw [← hV, ← hn]; exact law_bits _ L T x N f w1 (H0.out.1.more (More.trans H0.out.2.2.1 hm)) H0.out.2.1 s1 s2 hx s3
    obtain ⟨M, hM⟩ : ∃ M, nm n = M := ⟨_, rfl⟩
    have hMb : M ≤ 31 := by rw [← hM]; unfold nm nw; omega
    have HN := Hid.mk (And.intro hM (And.intro (show n ≤ 1099511627776 by omega) (show n + 64 ≤ 1099511627776 by omega)))
    have hmk : ∀ (w : World) (d : Nat), DirRd w d V n → Calls Try.prog 16 #[.pointer (some ⟨d, 0, none⟩)] w fun e w' => ∃ v', e = .returned v' ∧ w'.ownsRow w.heap.size 3 1 v' (M + 1) (ints (mk V n) (M + 1)) ∧ More w w' := fun w d h => by
      have := dir_marks d V n w h.c1 HN.out.2.1; rwa [hM] at this
    have hrm : ∀ (w : World) (v : Value), BRd w v n V → V < 2 ^ n → Calls Try.prog 15 #[v] w fun e w' => ∃ v', e = .returned v' ∧ w'.ownsRow w.heap.size 3 1 v' (M + 1) (ints (mk V n) (M + 1)) ∧ More w w' := fun w v h hfit => by
      have := ref_marks v n V w h hfit HN.out.2.1; rwa [hM] at this
    clear hV hn hM
    go_enter Try.func4, Try.ntmps4
    go_wp2_with (first
      | (go_at_call 6; refine hs.mono ?_; rintro e w1 ⟨rfl, hm⟩; obtain ⟨d0, d1, d2, d3⟩ := H0.out.2.2.2.more hm; have H1 := Hid.mk hm; clear hm hs)
      | (go_at_call 9; refine (hrow _ H1.out).mono ?_; rintro e w2 ⟨b, rfl, hr, hm⟩; have H2 := Hid.mk (And.intro hr (More.trans H1.out hm)); clear hr hm hrow d0 d1 d2 d3)
      | (go_at_call 8; refine (dir_new _ V n w2 (RowOr.row H2.out.1)).mono ?_; rintro e w3 ⟨d, rfl, hd, hm⟩; obtain ⟨d0, d1, d2, d3⟩ := H0.out.2.2.2.more (More.trans H2.out.2 hm); have H3 := Hid.mk (And.intro hd hm); clear hd hm)
      | (go_at_call 10; refine (hbits _ (More.trans H2.out.2 H3.out.2)).mono ?_; rintro e w4 ⟨vb, rfl, hown, hm⟩; obtain ⟨ab, cb, rfl⟩ := shape_of hown; have H4 := Hid.mk (And.intro hown hm); clear hown hm hbits d0 d1 d2 d3)
      | (go_at_call 15; refine (hrm w4 _ (brd_of_own H4.out.1) H3.out.1.fit).mono ?_; rintro e w6 ⟨vw, rfl, hown, hm⟩; obtain ⟨aw, cw, rfl⟩ := shape_of hown; have H6 := Hid.mk (And.intro hown hm); clear hown hm hrm)
      | (go_at_call 16; refine (hmk w6 d (((H3.out.1.more H4.out.2).more H6.out.2).rd)).mono ?_; rintro e w7 ⟨vg, rfl, hown, hm⟩; obtain ⟨ag, cg, rfl⟩ := shape_of hown; have H7 := Hid.mk (And.intro hown hm); clear hown hm)
      | (go_at_call 17; refine (ints_same _ _ (M + 1) (mk V n) (mk V n) w7 (ird_of_own H7.out.1) ((ird_of_own H6.out.1).more H7.out.2) (fun _ _ => rfl) (by omega) (by omega)).mono ?_; rintro e w' ⟨rfl, m7, hw'⟩; subst w')
      | (go_at_call 18; refine (row_fit _ b V n y 64 (w7.drewN m7) ((More.trans (More.trans H3.out.2 (More.trans H4.out.2 (More.trans H6.out.2 H7.out.2))) (More.drewN _ m7)).row H2.out.1) (Nat.le_trans H2.out.1.lo (Nat.le_of_lt ?z1)) (by decide) (lt_pow64 hy) HN.out.2.2).mono ?_; rotate_left 1; rintro e w8 ⟨rfl, hrow, hk⟩; have H8 := Hid.mk hk; clear hrow hk))
    case z1 =>
      obtain ⟨_, hb, _⟩ := ((More.trans (More.trans H3.out.2 (More.trans H4.out.2 (More.trans H6.out.2 H7.out.2))) (More.drewN _ m7)).row H2.out.1).mem
      exact lt_of_block hb
    obtain ⟨gg, rfl⟩ : ∃ gg, ag = some ⟨gg, 0, none⟩ := by
      obtain ⟨g, h, _⟩ := (ird_of_own H7.out.1).at (by omega)
      exact ⟨g, h⟩
    have hg8 : w8.ownsRow w6.heap.size 3 1 (.slice (some ⟨gg, 0, none⟩) (M + 1) cg) (M + 1) (ints (mk V n) (M + 1)) := by
      have h27 : More w2 (w7.drewN m7) := More.trans (More.trans H3.out.2 (More.trans H4.out.2 (More.trans H6.out.2 H7.out.2))) (More.drewN _ m7)
      have h26 := (More.trans H3.out.2 (More.trans H4.out.2 H6.out.2)).size
      have h1 : (w7.drewN m7).ownsRow w6.heap.size 3 1 (.slice (some ⟨gg, 0, none⟩) (M + 1) cg) (M + 1) (ints (mk V n) (M + 1)) := H7.out.1
      refine own_stays h1 h26 fun k hB hk => H8.out.only k hk fun hb => ?_
      have := rowBlk_lt H2.out.1 h27 hb
      omega
    have HL := Hid.mk hg8
    clear hg8
    go_loopw [10] (fun c wr => ∃ k : Nat, k ≤ M + 1 ∧ c = .int .i64 k ∧ Hid ((∃ ys, wr.ownsRow w6.heap.size 3 1 (.slice (some ⟨gg, 0, none⟩) (M + 1) cg) (M + 1) ys) ∧ Below w6.heap.size w8 wr)) (fun c _ => M + 1 - (intOf c).toNat)
    case atStart => exact ⟨0, Nat.zero_le _, rfl, Hid.mk ⟨⟨_, HL.out⟩, Below.refl _ _⟩⟩
    case round =>
      obtain ⟨k, hk, rfl, HR⟩ := hrel
      by_cases hkM : k < M + 1
      · obtain ⟨ys, hys⟩ := HR.out.1
        obtain ⟨u, hu⟩ : ∃ u, wr.cell? ⟨gg, k, none⟩ = some u := by
          rw [hys.cellAt k (by omega)]
          exact ⟨_, List.getElem?_eq_getElem (by have := hys.1; omega)⟩
        have hfz := hys.frozenAt k
        have hst := (hys.stored k (.int .i64 (-1))).1
        have hgl : w6.heap.size ≤ gg := (hys.lt gg rfl).1
        have HS := Hid.mk (And.intro hst (HR.out.2.setCell (p := ⟨gg, k, none⟩) hgl (.int .i64 (-1))))
        clear hys hst HR
        go_wp2
        refine ⟨⟨k + 1, by omega, by go_num, Hid.mk ⟨⟨_, HS.out.1⟩, HS.out.2⟩⟩, by simp [intOf]; omega⟩
      · obtain rfl : k = M + 1 := by omega
        have h26 : More w2 w6 := More.trans H3.out.2 (More.trans H4.out.2 H6.out.2)
        have hstay := stays_add H2.out.1 h26 (More.trans H7.out.2 (More.drewN _ m7)) H8.out HR.out.2
        have hD := (((H3.out.1.more H4.out.2).more H6.out.2).stays (Nat.le_refl _) hstay).rd
        have hB := brd_of_own (own_stays (More.own H4.out.1 H6.out.2) H3.out.2.size hstay)
        have hW := ird_of_own (own_stays H6.out.1 (More.trans H3.out.2 H4.out.2).size hstay)
        have h01 : More w w1 := More.trans H0.out.2.2.1 H1.out
        have hA : More w wr := by
          have h07 : More w (w7.drewN m7) := More.trans (More.trans H0.out.2.2.1 H2.out.2) (More.trans h26 (More.trans H7.out.2 (More.drewN _ m7)))
          have h78 : Below w.heap.size (w7.drewN m7) w8 := H8.out.below.mono h01.size
          have h89 : Below w.heap.size w8 wr := HR.out.2.mono (Nat.le_trans (More.trans (More.trans H0.out.2.2.1 H2.out.2) h26).size (Nat.le_refl _))
          exact (Below.trans h07 h78).trans h89
        obtain ⟨gw, rfl, hcw⟩ := hW.at (by omega)
        have hcM := hcw M (by omega)
        obtain ⟨R, hR⟩ : ∃ R, rk V n = R := ⟨_, rfl⟩
        rw [show mk V n M = R by rw [← HN.out.1, mk_last, hR]] at hcM
        have hk17 : ∀ (w' w'' : World) (v' : Value), More wr w' → IRd w' v' (M + 1) (mk V n) → Calls Try.prog 17 #[v', .slice (some ⟨gw, 0, none⟩) (M + 1) cw] w' fun e w'' => e = .returned (.bool true) ∧ ∃ m, w'' = w'.drewN m := fun w' _ v' hm hv =>
          ints_same _ _ (M + 1) (mk V n) (mk V n) w' hv (hW.more hm) (fun _ _ => rfl) (by omega) (by omega)
        have hk11 : ∀ w', More wr w' → Calls Try.prog 11 #[.pointer (some ⟨d, 0, none⟩)] w' fun e w'' => e = .returned (.int .i64 n) ∧ w'' = w' := fun w' hm => dir_len d n w' (hD.more hm).c2
        have hk16 : ∀ w', More wr w' → Calls Try.prog 16 #[.pointer (some ⟨d, 0, none⟩)] w' fun e w'' => ∃ v', e = .returned v' ∧ IRd w'' v' (M + 1) (mk V n) ∧ More w' w'' := fun w' hm =>
          (hmk w' d (hD.more hm)).mono fun _ _ ⟨v', he, ho, hm⟩ => ⟨v', he, ird_of_own ho, hm⟩
        have hk19 : ∀ w', More wr w' → Calls Try.prog 19 #[.slice ab n cb] w' fun e w'' => e = .returned (.int .i64 R) ∧ w'' = w' := fun w' hm => by
          rw [← hR]; exact ref_ones _ n V w' (hB.more hm) HN.out.2.1
        have hk8 : ∀ w', Calls Try.prog 8 #[.pointer none] w' fun e w'' => ∃ d2, e = .returned (.pointer (some ⟨d2, 0, none⟩)) ∧ DirRd w'' d2 0 0 ∧ More w' w'' := fun w' =>
          (dir_new _ 0 0 w' (RowOr.none w')).mono fun _ _ ⟨d2, he, hd, hm⟩ => ⟨d2, he, hd.rd, hm⟩
        have hk16b : ∀ w' (d2 : Nat), DirRd w' d2 0 0 → Calls Try.prog 16 #[.pointer (some ⟨d2, 0, none⟩)] w' fun e w'' => ∃ v', e = .returned v' ∧ IRd w'' v' 1 (mk 0 0) ∧ More w' w'' := fun w' d2 hd =>
          (dir_marks d2 0 0 w' hd.c1 (by decide)).mono fun _ _ ⟨v', he, ho, hm⟩ => ⟨v', he, ird_of_own ho, hm⟩
        have hk17b : ∀ (w' : World) (a b : Value), IRd w' a 1 (mk 0 0) → IRd w' b 1 (fun _ => 0) → Calls Try.prog 17 #[a, b] w' fun e w'' => e = .returned (.bool true) ∧ ∃ m, w'' = w'.drewN m := fun w' a b ha hb =>
          ints_same a b 1 (mk 0 0) (fun _ => 0) w' ha hb (fun j hj => by match j, hj with | 0, _ => decide) (by decide) (by decide)
        have HA := Hid.mk hA
        have hS0 : More wr wr ∧ wr.cell? ⟨gw, M, none⟩ = some (.int .i64 R) := ⟨Below.refl _ _, hcM⟩
        clear hk hkM hstay hD hB hW h01 hA hcw hcM hR hmk HL H8 H7 H6 H4 H3 H2 H1 H0 HR HN c0 c1 c2 c3 hw0 h26 s1 s2 s3 hx hN hy hL hT
        obtain ⟨K1, hK1⟩ : ∃ K1, M + 1 = K1 := ⟨_, rfl⟩
        rw [hK1] at hk17 hk16 ⊢
        have i1 : (K1 : Int) - 1 = M := by omega
        have i2 : M < K1 := by omega
        have i3 := wrapS M (by omega)
        clear hK1 hMb
        go_wp2
        go_region_held (fun w' => More wr w' ∧ w'.cell? ⟨gw, M, none⟩ = some (.int .i64 R))
          (first | assumption | exact held_more (by assumption) (by assumption) | exact held_more (by assumption) (More.drewN _ _) | exact held_more (by assumption) (more_alloc _ _))
          (first
            | (go_at_call_of 16 (Value.pointer (some ⟨d, 0, none⟩)); refine (hk16 _ (And.left (by assumption))).mono ?_; rintro e wa ⟨va, rfl, hva, hma⟩; have Ha := Hid.mk hva; clear hva)
            | (go_at_call_of 17 va; refine (hk17 _ wr _ (And.left (by assumption)) Ha.out).mono ?_; rintro e wb ⟨rfl, mb, hwb⟩; subst wb)
            | (go_at_call_of 11 (Value.pointer (some ⟨d, 0, none⟩)); refine (hk11 _ (And.left (by assumption))).mono ?_; rintro e w' ⟨rfl, hw'⟩; subst w')
            | (go_at_call_of 11 (Value.pointer none); refine (none_len _).mono ?_; rintro e w' ⟨rfl, hw'⟩; subst w')
            | (go_at_call 12; refine (none_rank 1 _).mono ?_; rintro e w' ⟨rfl, hw'⟩; subst w')
            | (go_at_call 14; refine (none_zeros 1 _).mono ?_; rintro e w' ⟨rfl, hw'⟩; subst w')
            | (go_at_call_of 16 (Value.pointer none); refine (none_marks _).mono ?_; rintro e w' ⟨rfl, hw'⟩; subst w')
            | (go_at_call 8; refine (hk8 _).mono ?_; rintro e wc ⟨d2, rfl, hd2, hmc⟩; have Hc := Hid.mk hd2; clear hd2)
            | (go_at_call_of 16 (Value.pointer (some ⟨d2, 0, none⟩)); refine (hk16b _ d2 ?_).mono ?_; (first | exact Hc.out | exact Hc.out.more (more_alloc _ _)); rintro e we ⟨v2, rfl, hv2, hme⟩; have He := Hid.mk hv2; clear hv2)
            | (go_at_call_of 17 v2; refine (hk17b _ v2 _ ?_ ?_).mono ?_; (first | exact He.out | exact He.out.more (more_alloc _ _)); (first | exact lit_ird _ | exact (lit_ird _).more (by assumption) | exact (((lit_ird wa).more (More.drewN _ mb)).more hmc).more hme | exact ((lit_ird _).more (by assumption)).more (by assumption)); rintro e wf ⟨rfl, mf, hwf⟩; subst wf)
            | (go_at_call 19; refine (hk19 _ (And.left (by assumption))).mono ?_; rintro e w' ⟨rfl, hw'⟩; subst w')
            | (go_at_call 7; refine (live_true _).mono ?_; rintro e wg ⟨rfl, hmg⟩))
        all_goals go_wp2
        all_goals go_ret
        all_goals exact ⟨rfl, More.trans HA.out (And.left (by assumption))⟩
  · rw [decide_eq_false hS] at hs
    clear hS
    go_enter Try.func4, Try.ntmps4
    go_wp2_with (first
      | (go_at_call 6; refine hs.mono ?_; rintro e w1 ⟨rfl, hm⟩; have H1 := Hid.mk hm; clear hm hs)
      | (go_at_call 7; refine (live_true _).mono ?_; rintro e w5 ⟨rfl, hm⟩; have H5 := Hid.mk (More.trans H1.out hm); clear hm))
    go_ret
    exact ⟨rfl, More.trans H0.out.2.2.1 H5.out⟩

end Go.Proofs.Ytmnkbdkhpnokgaa
