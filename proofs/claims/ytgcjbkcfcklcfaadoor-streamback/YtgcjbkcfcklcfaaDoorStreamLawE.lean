/-
  StreamBack, walked.
-/
import Derived.Test.YtgcjbkcfcklcfaaDoorStreamLawC
namespace Go.Proofs.YtgcjbkcfcklcfaaDoor
open Go.RowKit

/-- The blocks of a row that was there in w2 lie below w2's end. -/
theorem rowBlk_in {w2 w : World} {base b V n k : Nat} (h : RowAt w2 base b V n) (hm : More w2 w) (hk : RowBlk w b k) : k < w2.heap.size := by
  obtain ⟨v, hb, hown⟩ := h.mem
  rcases hk with rfl | ⟨v', y, hb', hv⟩
  · exact lt_of_block hb
  · rw [hm.block b (lt_of_block hb), hb] at hb'
    simp at hb'
    obtain ⟨rfl, _⟩ := hb'
    exact (hown.lt k hv).2

/-- A reader is as it was where all blocks from its base on are. -/
theorem RdAt.stays {w w' : World} {base b V n a E : Nat} (h : RdAt w base b V n a E) (hz : w.heap.size ≤ w'.heap.size) (k : ∀ j, base ≤ j → j < w.heap.size → w'.heap[j]? = w.heap[j]?) : RdAt w' base b V n a E := by
  obtain ⟨rb, hb, hr⟩ := h.mem
  obtain ⟨v, hm, hown⟩ := hr.mem
  refine ⟨h.lo, Nat.le_trans h.sz hz, h.le, rb, by rw [k b h.lo (lt_of_block hb)]; exact hb, hr.lo, hr.fit, hr.len, v, by rw [k rb hr.lo (lt_of_block hm)]; exact hm, hown.1, ?_⟩
  rcases hown.2 with h2 | ⟨g, cap, cur, hv, hgb, hg, hrest⟩
  · exact .inl h2
  · exact .inr ⟨g, cap, cur, hv, hgb, by rw [k g hgb (lt_of_block hg)]; exact hg, hrest⟩

/-- Of a code that is written: its number fits a word. -/
theorem want_of (kd N : Int) (x : Nat) (h : cdE kd x N = 0) (hk : kd = 1) : IntKind.u64.wrap N = ((N.toNat : Nat) : Int) := by
  subst hk
  unfold cdE at h
  rw [if_neg (by decide), if_pos rfl] at h
  split at h
  · simp at h
  · rw [wrapU _ (by omega) (by omega)]; omega

set_option maxHeartbeats 3200000 in
set_option maxRecDepth 1000000 in
theorem streamBack (v : Value) (K : Nat) (cK : Nat → Int) (cX : Nat → Nat) (cN : Nat → Int) (w : World) (h : CRd w v K cK cX cN) (hX : ∀ k, cX k < 18446744073709551616) (hK : K ≤ 9223372036854775807) (hT : TabIn w) :
    Calls Tryd.prog 5 #[v] w fun e w' => e = .returned (.bool true) ∧ Below w.heap.size w w' := by
  by_cases hbig : 30 < K
  · obtain ⟨ao, cap, rfl⟩ := h.shape
    have hl := live_true w hT
    clear h hT
    go_enter Tryd.func5, Tryd.ntmps5
    go_wp2_with (go_at_call 7; refine hl.mono ?_; rintro e w' ⟨rfl, hm⟩)
    go_ret
    exact ⟨rfl, hm⟩
  have h0 : 0 < w.heap.size := World.block_lt_of_cell? w ⟨0, 0, none⟩ (hT 0 (by omega))
  have HT := Hid.mk (fun (w' : World) (h : Below w.heap.size w w') => hT.below h h0)
  have hlv := fun w' (h : Below w.heap.size w w') => live_true w' (HT.out w' h)
  obtain ⟨ao, cap, rfl⟩ := h.shape
  have HH := Hid.mk (And.intro h (accW_fit cK cX cN hX))
  have HX := Hid.mk hX
  have HW0 := Hid.mk (And.intro (WrAt.new w) (more_box w (.cells #[.pointer none] 27)))
  clear h hT h0 hX
  go_enter Tryd.func5, Tryd.ntmps5
  go_wp2
  go_loopw [4] (fun i wr => ∃ k V n : Nat, k ≤ K ∧ i = .int .i64 k ∧ Hid ((V, n) = accW cK cX cN k ∧ ∀ j, j < k → cdE (cK j) (cX j) (cN j) = 0) ∧ Hid (WrAt wr w.heap.size w.heap.size V n ∧ Below w.heap.size w wr)) (fun i _ => K - (intOf i).toNat)
  case atStart => exact ⟨0, 0, 0, Nat.zero_le _, rfl, Hid.mk ⟨rfl, fun j hj => by omega⟩, Hid.mk ⟨HW0.out.1, HW0.out.2⟩⟩
  case round =>
    obtain ⟨k, V, n, hk, rfl, hacc, HR⟩ := hrel
    have hfit : V < 2 ^ n ∧ n ≤ 4160 * k := by have := HH.out.2 k; rw [← hacc.out.1] at this; exact this
    by_cases hkK : k < K
    · obtain ⟨g, o, rfl, hcode⟩ := HH.out.1.at hkK
      have hx := HX.out k
      have hstep : (wrV (cK k) V n (cX k) (cN k), wrN (cK k) n (cX k) (cN k)) = accW cK cX cN (k + 1) := by
        rw [accW, ← hacc.out.1]
      have hall : cdE (cK k) (cX k) (cN k) = 0 → ∀ j, j < k + 1 → cdE (cK j) (cX j) (cN j) = 0 := fun h j hj => by
        rcases (show j < k ∨ j = k by omega) with h1 | rfl
        · exact hacc.out.2 j h1
        · exact h
      have hnb : n + 5000 ≤ 1099511627776 := by omega
      have hwr := fun w' (h : WrAt w' w.heap.size w.heap.size V n) => law_write w.heap.size w.heap.size V n (cX k) (cK k) (cN k) w' h hx hnb
      have href := fun w' (hb : w.heap.size ≤ w'.heap.size) => ref_write w.heap.size 0 0 (cX k) (knd (cK k)) (cN k) (.slice none 0 0) w' (World.ownsRow_nil _ _ _ _) hb (by decide) hx (by decide)
      unfold Wrote at href
      unfold Put at hwr
      rw [cdE_knd, wrV_knd, wrN_knd] at href
      have hkind := fun w' => law_kind (cK k) (cN k) (cX k) w'
      unfold CodeIn at hcode
      have HS := Hid.mk (And.intro hstep hall)
      clear hstep hall
      generalize cdE (cK k) (cX k) (cN k) = E at *
      generalize wrV (cK k) V n (cX k) (cN k) = V' at *
      generalize wrN (cK k) n (cX k) (cN k) = n' at *
      generalize wrV (cK k) 0 0 (cX k) (cN k) = V0 at *
      generalize wrN (cK k) 0 (cX k) (cN k) = n0 at *
      generalize cK k = kd at *
      generalize cX k = x at *
      generalize cN k = N at *
      generalize knd kd = kn at *
      have HC := Hid.mk hcode
      have hS0 : More wr wr ∧ wr.cell? ⟨g, o + k * 3, none⟩ = some (.int .i64 kd) ∧ wr.cell? ⟨g, o + k * 3 + 1, none⟩ = some (.int .u64 x) ∧ wr.cell? ⟨g, o + k * 3 + 2, none⟩ = some (.int .i64 N) :=
        ⟨Below.refl _ _, HC.out wr HR.out.2⟩
      clear hcode HH HX hfit hacc
      go_wp2_with fail
      go_region_held (fun w' => More wr w' ∧ w'.cell? ⟨g, o + k * 3, none⟩ = some (.int .i64 kd) ∧ w'.cell? ⟨g, o + k * 3 + 1, none⟩ = some (.int .u64 x) ∧ w'.cell? ⟨g, o + k * 3 + 2, none⟩ = some (.int .i64 N))
        (first | assumption | exact held_code (by assumption) (by assumption) | exact held_code (by assumption) (More.drewN _ 1))
        (first
          | (go_at_call 9; refine (hkind _).mono ?_; rintro e w2 ⟨rfl, hw2⟩; have hm2 : More _ w2 := (by rw [hw2]; exact more_box _ _); clear hw2)
          | (go_at_call 8; refine (href _ (Nat.le_trans HR.out.2.size (And.left (by assumption) : More wr _).size)).mono ?_; rintro e w3 ⟨v3, rfl, _, hm3⟩))
      obtain ⟨hm, d0, d1, d2⟩ : More wr w3 ∧ w3.cell? ⟨g, o + k * 3, none⟩ = some (.int .i64 kd) ∧ w3.cell? ⟨g, o + k * 3 + 1, none⟩ = some (.int .u64 x) ∧ w3.cell? ⟨g, o + k * 3 + 2, none⟩ = some (.int .i64 N) := by assumption
      have H4 := Hid.mk (And.intro (HR.out.1.more hm) (Below.trans HR.out.2 (hm.mono HR.out.2.size)))
      clear hm hm2 hm3 hS0 href hkind HR
      by_cases hE : E = 0
      · subst hE
        go_wp2_with (go_at_call 10; refine (hwr w3 H4.out.1).mono ?_; rintro e w4 ⟨rfl, ha, hb⟩; have H5 := Hid.mk (And.intro ha (Below.trans H4.out.2 hb.below)); clear ha hb)
        exact ⟨⟨k + 1, V', n', by omega, by go_num, Hid.mk ⟨HS.out.1, HS.out.2 (by first | rfl | trivial)⟩, H5⟩, by simp [intOf]; omega⟩
      · have hne : (E != 0) = true := by simp [hE]
        clear hE
        go_wp2_with (go_at_call 7; refine (hlv w3 H4.out.2).mono ?_; rintro e w4 ⟨rfl, hb⟩; have H5 := Hid.mk (Below.trans H4.out.2 (hb.mono H4.out.2.size)); clear hb)
        go_ret
        exact ⟨rfl, H5.out⟩
    · obtain rfl : k = K := by omega
      have hnb : n + 64 ≤ 1099511627776 := by omega
      have HF := Hid.mk (And.intro hfit.1 (And.intro hacc.out HH.out.1))
      have T1 : Hid True := trivial
      have hadd := fun w' base c (h : RowAt w' base c V n) (hz : base ≤ w'.heap.size) => row_add_o base c V n 1 1 w' h hz (by decide) hnb
      rw [show addErr 1 1 = 0 by decide] at hadd
      clear hfit hacc HH
      go_wp2_with (first
        | (go_at_call 11; have T2 := T1; clear T1; refine (wr_row _ _ V n wr HR.out.1).mono ?_; rintro e w2 ⟨c, rfl, ha, hb⟩; have H2 := Hid.mk (And.intro ha hb); clear ha hb)
        | (go_at_call_of 12 (Value.pointer (some ⟨c, 0, none⟩)); refine (row_len c n w2 H2.out.1.rd.c1).mono ?_; rintro e w' ⟨rfl, hw'⟩; subst w')
        | (go_at_call 17; refine (rd_open _ V n w2 (RowHas.row H2.out.1)).mono ?_; rintro e w3 ⟨rb, rfl, ha, hb⟩; have H3 := Hid.mk (And.intro ha hb); clear ha hb)
        | (go_at_call 23; refine (hadd w3 _ c (More.row H2.out.1 H3.out.2) (Nat.le_trans H2.out.2.size H3.out.2.size)).mono ?_; rintro e w4 ⟨rfl, _, hk4⟩; have H4 := Hid.mk (And.intro (H3.out.1.stays hk4.below.size fun j hj hjs => hk4.only j hjs fun hb => absurd (rowBlk_in H2.out.1 H3.out.2 hb) (by omega)) (Below.trans (More.trans H2.out.2 H3.out.2) hk4.below : Below wr.heap.size wr w4)); clear hk4)
        | (go_at_call 11; refine (wr_row _ _ V n w4 (HR.out.1.more H4.out.2)).mono ?_; rintro e w5 ⟨c2, rfl, ha, hb⟩; have H5 := Hid.mk (And.intro ha (And.intro (H4.out.1.more hb) (Below.trans HR.out.2 ((More.trans H4.out.2 hb).mono HR.out.2.size)))); clear ha hb)
        | (go_at_call 12; refine (row_len c2 n w5 H5.out.1.rd.c1).mono ?_; rintro e w' ⟨rfl, hw'⟩; subst w'))
      have hacc : (accW cK cX cN k).1 = V ∧ (accW cK cX cN k).2 = n := by rw [← HF.out.2.1.1]; exact ⟨rfl, rfl⟩
      have hback : ∀ j, j < k → rd (cK j) (V / 2 ^ (accW cK cX cN j).2) (n - (accW cK cX cN j).2) (cN j) = (if cK j = 1 then (cN j).toNat else cX j, cdL (cK j) (cX j) (cN j), 0) ∧ (accW cK cX cN (j + 1)).2 = (accW cK cX cN j).2 + cdL (cK j) (cX j) (cN j) := fun j hj => by
        obtain ⟨b1, b2, b3⟩ := accW_behind cK cX cN HX.out k HF.out.2.1.2 j hj
        rw [hacc.1] at b3
        rw [hacc.2] at b1
        exact ⟨rd_back (cK j) (cX j) (cN j) _ _ (HX.out j) (HF.out.2.1.2 j hj) b3 (by omega), b2⟩
      have HP := Hid.mk (And.intro hback hacc.2)
      clear hback hacc
      go_loopw [10] (fun i wx => ∃ j a : Nat, j ≤ k ∧ i = .int .i64 j ∧ Hid (a = (accW cK cX cN j).2) ∧ Hid (RdAt wx w2.heap.size rb V n a 0 ∧ Below w.heap.size w wx)) (fun i _ => k - (intOf i).toNat)
      case atStart => exact ⟨0, 0, Nat.zero_le _, rfl, Hid.mk rfl, Hid.mk ⟨H5.out.2.1, H5.out.2.2⟩⟩
      case round =>
        obtain ⟨j, a, hj, rfl, ha, HQ⟩ := hrel
        by_cases hjk : j < k
        · obtain ⟨g, o, rfl, hcode⟩ := HF.out.2.2.at hjk
          obtain ⟨hb1, hb2⟩ := HP.out.1 j hjk
          rw [← ha.out] at hb1 hb2
          have hE := HF.out.2.1.2 j hjk
          have hread := fun w' (h : RdAt w' w2.heap.size rb V n a 0) (hT : TabIn w') => law_read w2.heap.size rb V n a _ _ 0 (cX j) (cK j) (cN j) w' h hT hb1
          unfold Got at hread
          unfold CodeIn at hcode
          have hx := HX.out j
          have hw1 := fun (h : cK j = 1) => want_of (cK j) (cN j) (cX j) hE h
          obtain ⟨c0, c1, c2⟩ := hcode _ HQ.out.2
          have HN := Hid.mk hb2
          generalize cdL (cK j) (cX j) (cN j) = t at *
          clear hb1 hb2 hE hcode
          generalize cK j = kd at *
          generalize cX j = x at *
          generalize cN j = N at *
          by_cases hkd : kd = 1
          · subst hkd
            have hw2 := hw1 rfl
            rw [if_pos rfl] at hread
            clear hw1
            go_wp2_with (go_at_call 19; refine (hread _ HQ.out.1 (HT.out _ HQ.out.2)).mono ?_; rintro e w6 ⟨rfl, hr6, hb6⟩; have H6 := Hid.mk (And.intro hr6 (Below.trans HQ.out.2 (hb6.mono (Nat.le_trans HR.out.2.size H2.out.2.size)))); clear hr6 hb6)
            exact ⟨⟨j + 1, a + t, by omega, by go_num, Hid.mk HN.out.symm, H6⟩, by simp [intOf]; omega⟩
          · rw [if_neg hkd] at hread
            have hne : (kd == 1) = false := by simp [hkd]
            clear hw1 hkd
            go_wp2_with (go_at_call 19; refine (hread _ HQ.out.1 (HT.out _ HQ.out.2)).mono ?_; rintro e w6 ⟨rfl, hr6, hb6⟩; have H6 := Hid.mk (And.intro hr6 (Below.trans HQ.out.2 (hb6.mono (Nat.le_trans HR.out.2.size H2.out.2.size)))); clear hr6 hb6)
            exact ⟨⟨j + 1, a + t, by omega, by go_num, Hid.mk HN.out.symm, H6⟩, by simp [intOf]; omega⟩
        · obtain rfl : j = k := by omega
          obtain rfl : a = n := ha.out.trans HP.out.2
          have hend := fun w' (h : RdAt w' w2.heap.size rb V a a 0) => rdr_end w2.heap.size rb V a a 0 w' h
          have hlf := fun w' (h : RdAt w' w2.heap.size rb V a a 0) => rdr_left w2.heap.size rb V a a 0 w' h
          rw [show endE a a 0 = 0 by simp [endE]] at hend
          rw [show a - a = 0 by omega] at hlf
          go_wp2_with (first
            | (go_at_call 22; refine (hend _ HQ.out.1).mono ?_; rintro e w6 ⟨rfl, m6, hw6⟩; have hm6 := More.drewN wr m6; rw [← hw6] at hm6; clear hw6; have H6 := Hid.mk (And.intro (HQ.out.1.more hm6) (Below.trans HQ.out.2 (hm6.mono HQ.out.2.size))); clear hm6)
            | (go_at_call 20; refine (hlf _ H6.out.1).mono ?_; rintro e w7 ⟨rfl, m7, hw7⟩; have hm7 := More.drewN w6 m7; rw [← hw7] at hm7; clear hw7; have H7 := Hid.mk (Below.trans H6.out.2 (hm7.mono H6.out.2.size)); clear hm7)
            | (go_at_call 7; refine (hlv w7 H7.out).mono ?_; rintro e w8 ⟨rfl, hb⟩; have H8 := Hid.mk (Below.trans H7.out (hb.mono H7.out.size)); clear hb))
          go_ret
          exact ⟨rfl, H8.out⟩

end Go.Proofs.YtgcjbkcfcklcfaaDoor
