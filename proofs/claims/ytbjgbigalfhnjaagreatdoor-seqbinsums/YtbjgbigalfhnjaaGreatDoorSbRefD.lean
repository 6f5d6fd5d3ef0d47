/-
  The document's GetSeq: which numbers any bytes are, or what is wrong.
-/
import Derived.Test.YtbjgbigalfhnjaaGreatDoorSbRefC
import Derived.Test.YtbjgbigalfhnjaaGreatDoorSet21
import Derived.Test.YtbjgbigalfhnjaaGreatDoorSet17
namespace Go.Proofs.YtbjgbigalfhnjaaGreatDoor
open Go.RowKit

/-- What the document's GetSeq tells. -/
structure DocSeq (w : World) (base x : Nat) (l : List UInt8) (n u : Nat) (v : List UInt8) (t er : Nat) (e : Ending) (w' : World) : Prop where
  keeps : KeepsT XT base w w'
  what : (er ≠ 0 ∧ e = .returned (.slice none 0 0) ∧ XAt w' base x (l.drop t) er) ∨
    (er = 0 ∧ Good n u (ofB v) ∧ XAt w' base x (l.drop t) 0 ∧ ∃ s, e = .returned s ∧ w'.ownsRow w.heap.size 3 1 s n (ints (gF n u (ofB v)) n)) ∨
    (er = 0 ∧ ¬ Good n u (ofB v) ∧ e = .returned (.slice none 0 0) ∧ XAt w' base x (l.drop t) 3)

theorem own_bools_at {w : World} {base K V : Nat} {v : Value} (h : w.ownsRow base 4 1 v K (bools V K)) (hK : 0 < K) : ∃ g cap, v = .slice (some ⟨g, 0, none⟩) K cap ∧ (∀ j, j < K → w.cell? ⟨g, j, none⟩ = some (.bool (V.testBit j))) ∧ K ≤ cap := by
  rcases h.2 with ⟨rfl, hn⟩ | ⟨g, cap, cur, rfl, _, hg, hle, _⟩
  · omega
  · exact ⟨g, cap, rfl, fun j hj => by rw [h.cellAt j (by omega), bools_get _ _ _ hj], hle⟩
theorem docRow_err (base x E n t er : Nat) (z : Int) (v l : List UInt8) (w : World) (h : XAt w base x l E) (hz : max z 0 = (n : Int)) (hn : n ≤ 9223372036854775807) (hq : st E [] (rdR l (nby n : Nat)) = (v, t, er)) (h0 : er ≠ 0) :
    Calls Tryz.prog 35 #[.pointer (some ⟨x, 0, none⟩), .int .i64 z] w fun e w' => e = .returned (.slice none 0 0) ∧ XAt w' base x (l.drop t) er ∧ KeepsT XT base w w' :=
  (rsb_getRow base x E n t er z v l w h hz hn hq).mono fun _ _ hg => by
    rcases hg.what with ⟨_, h1, h2⟩ | ⟨h1, _⟩ | ⟨h1, _⟩
    · exact ⟨h1, h2, hg.keeps⟩
    · exact absurd h1 h0
    · exact absurd h1 h0
theorem docRow_row (base x E n t : Nat) (z : Int) (v l : List UInt8) (w : World) (h : XAt w base x l E) (hz : max z 0 = (n : Int)) (hn : n ≤ 9223372036854775807) (hq : st E [] (rdR l (nby n : Nat)) = (v, t, 0)) (hf : ofB v < 2 ^ n) :
    Calls Tryz.prog 35 #[.pointer (some ⟨x, 0, none⟩), .int .i64 z] w fun e w' => ∃ s, e = .returned s ∧ w'.ownsRow w.heap.size 4 1 s n (bools (ofB v) n) ∧ XAt w' base x (l.drop t) 0 ∧ KeepsT XT base w w' :=
  (rsb_getRow base x E n t 0 z v l w h hz hn hq).mono fun _ _ hg => by
    rcases hg.what with ⟨h1, _⟩ | ⟨_, _, h2, r, h3, h4⟩ | ⟨_, h1, _⟩
    · exact absurd rfl h1
    · exact ⟨r, h3, h4, h2, hg.keeps⟩
    · exact absurd hf h1
theorem docRow_form (base x E n t : Nat) (z : Int) (v l : List UInt8) (w : World) (h : XAt w base x l E) (hz : max z 0 = (n : Int)) (hn : n ≤ 9223372036854775807) (hq : st E [] (rdR l (nby n : Nat)) = (v, t, 0)) (hf : ¬ ofB v < 2 ^ n) :
    Calls Tryz.prog 35 #[.pointer (some ⟨x, 0, none⟩), .int .i64 z] w fun e w' => e = .returned (.slice none 0 0) ∧ XAt w' base x (l.drop t) 3 ∧ KeepsT XT base w w' :=
  (rsb_getRow base x E n t 0 z v l w h hz hn hq).mono fun _ _ hg => by
    rcases hg.what with ⟨h1, _⟩ | ⟨_, h1, _⟩ | ⟨_, _, h2, h3⟩
    · exact absurd rfl h1
    · exact absurd h1 hf
    · exact ⟨h2, h3, hg.keeps⟩

set_option maxHeartbeats 800000 in
set_option maxRecDepth 1000000 in
theorem rsb_getSeq_none (base x E u t1 er1 t2 er2 t3 er : Nat) (v l : List UInt8) (w : World) (h : XAt w base x l E) (hR : Reads l E 0 u v t1 er1 t2 er2 t3 er) :
    Calls Tryz.prog 15 #[.pointer (some ⟨x, 0, none⟩)] w fun e w' => DocSeq w base x l 0 u v (t1 + t2 + t3) er e w' := by
  have h1 := ref_rupto base x t1 er1 E 0 1048576 l w h (by decide) hR.one
  rw [Int.natCast_zero] at h1
  obtain ⟨rfl, rfl, rfl⟩ : u = 0 ∧ t2 = 0 ∧ er2 = er1 := by
    rcases hR.two with h | h
    · exact h.2
    · exact absurd rfl h.1
  have h3 := hR.three
  have hend : er = er2 ∧ t3 = 0 ∧ (er2 = 0 → v = []) := by
    rw [show gBits 0 0 = 0 by decide] at h3
    by_cases hE : er2 = 0
    · subst hE
      rw [st_ok] at h3
      unfold rdR cutR at h3
      simp [nby] at h3
      obtain ⟨h4, h5, h6⟩ := h3
      exact ⟨h6.symm, h5.symm, fun _ => h4⟩
    · rw [st_no hE] at h3
      simp at h3
      exact ⟨h3.2.2.symm, h3.2.1.symm, fun h => absurd h hE⟩
  obtain ⟨rfl, rfl, hv⟩ := hend
  have HV := Hid.mk hv
  clear hR h3 hv
  go_enter Tryz.func15, Tryz.ntmps15
  go_wp2_with (go_at_call 33; refine h1.mono ?_; rintro e w1 ⟨rfl, hx1, hk1⟩; obtain ⟨c0, c1, z0, z1⟩ := wcells2 hx1.mem; have H1 := Hid.mk (And.intro hx1 hk1); clear hx1 hk1 h1)
  go_ret
  refine ⟨H1.out.2, ?_⟩
  by_cases hE : er = 0
  · subst hE
    have hv := HV.out rfl
    subst hv
    exact .inr (.inl ⟨rfl, ⟨by decide, Nat.zero_le _, fun h => absurd rfl h, rfl⟩, H1.out.1, _, rfl, World.ownsRow_nil _ _ _ _⟩)
  · exact .inl ⟨hE, rfl, H1.out.1⟩

set_option maxHeartbeats 3200000 in
set_option maxRecDepth 1000000 in
theorem rsb_getSeq_some (base x E n u t1 er1 t2 er2 t3 er : Nat) (v l : List UInt8) (w : World) (h : XAt w base x l E) (hn0 : n ≠ 0) (hfew : er = 0 → n ≤ 4000 ∧ gBits n u ≤ 1000000) (hR : Reads l E n u v t1 er1 t2 er2 t3 er) :
    Calls Tryz.prog 15 #[.pointer (some ⟨x, 0, none⟩)] w fun e w' => DocSeq w base x l n u v (t1 + t2 + t3) er e w' := by
  have h1 := ref_rupto base x t1 er1 E n 1048576 l w h (by decide) hR.one
  have hb1 := st_bnd hR.one
  obtain ⟨rfl, rfl⟩ := hb1.2.2.2 hn0
  have htwo : st 0 0 (bnd (l.drop t1) 1099511627776 8) = (u, t2, er2) := by
    rcases hR.two with h | h
    · exact absurd h.1 hn0
    · exact h.2
  have hb2 := st_bnd htwo
  have h2 := fun w1 (h : XAt w1 base x (l.drop t1) 0) => ref_rupto base x t2 er2 0 u 1099511627776 (l.drop t1) w1 h (by decide) htwo
  have hnb : n ≤ 1048576 := by omega
  have hub : u ≤ 1099511627776 := by omega
  obtain ⟨D, hD⟩ : ∃ D, lowN n u = D := ⟨_, rfl⟩
  obtain ⟨B, hB⟩ : ∃ B, gBits n u = B := ⟨_, rfl⟩
  obtain ⟨S, Q, hS, hQ, hSB, hD40, hSb, hQb, hmul, hsh⟩ := sb_some_pre n u hnb hub D B hD hB
  have hlow := fun w => ref_low (n : Int) (u : Int) (by omega) (by omega) w
  rw [lowZ_nat, hD] at hlow
  have hup := fun w => rsb_upper u D hub (by omega) w
  rw [hQ] at hup
  have h3 := hR.three
  rw [hB, ← List.drop_drop] at h3
  have hn0' : ¬ (n : Int) = 0 := by omega
  have hBb : B ≤ 1099554619392 := by omega
  obtain ⟨S1, hS1⟩ : ∃ S1, S + n = S1 := ⟨_, rfl⟩
  have e1 : (S : Int) + (n : Int) = (S1 : Int) := by omega
  have e2 : (S1 : Int) + (Q : Int) = (B : Int) := by omega
  have hwS : IntKind.i64.wrap (S : Int) = S := by rw [IntKind.wrap_i64]; omega
  have hwS1 : IntKind.i64.wrap (S1 : Int) = S1 := by rw [IntKind.wrap_i64]; omega
  have hwB : IntKind.i64.wrap (B : Int) = B := by rw [IntKind.wrap_i64]; omega
  have hdrop : ∀ t, ((l.drop t1).drop t2).drop t = l.drop (t1 + t2 + t) := fun t => by rw [List.drop_drop, List.drop_drop, Nat.add_assoc]
  by_cases h0 : er = 0
  · subst h0
    obtain ⟨hz2, hvl, hBl, ht3, -⟩ := hR.few rfl
    subst hz2
    have hB2 := (hfew rfl).2
    have hn4 := (hfew rfl).1
    rw [hB] at hBl hB2
    by_cases hfit : ofB v < 2 ^ B
    · have hrow := fun w1 (h : XAt w1 base x ((l.drop t1).drop t2) 0) => docRow_row base x 0 B t3 (B : Int) v _ w1 h (by omega) (by omega) h3 hfit
      have hM2 : (n + Q) * 2 ^ D ≤ 8796093022208 := by
        have h1 := low_mul n u (by omega) (by omega)
        rw [hD] at h1
        have h2 := Nat.div_mul_le_self u (2 ^ D)
        rw [hQ] at h2
        rw [Nat.add_mul]; omega
      obtain ⟨V, hVe⟩ : ∃ V, ofB v = V := ⟨_, rfl⟩
      obtain ⟨H, hHe⟩ : ∃ H, V / 2 ^ S = H := ⟨_, rfl⟩
      obtain ⟨F, hF⟩ : ∃ F, gF n u V = F := ⟨_, rfl⟩
      obtain ⟨M, hMe⟩ : ∃ M, n + Q = M := ⟨_, rfl⟩
      have hFe : ∀ i, F i = (pl H M i - i) * 2 ^ D + V / 2 ^ (D * i) % 2 ^ D := fun i => by rw [← hF]; unfold gF gN; rw [hD, hQ, hS, hHe, hMe]
      have hgood : Good n u V ↔ (min n (rk H M) = n ∧ F (n - 1) = u ∧ wrg (fun i => (F i : Int)) n = 0) := by
        constructor
        · rintro ⟨g1, g2, g3, g4⟩
          rw [hD, hS, hQ, hHe, hMe] at g2
          rw [hF] at g3 g4
          exact ⟨by omega, g3 hn0, g4⟩
        · rintro ⟨g2, g3, g4⟩
          rw [← hF] at g3 g4
          exact ⟨by rw [hB, ← hVe]; exact hfit, by rw [hD, hS, hQ, hHe, hMe]; omega, fun _ => g3, g4⟩
      have hbits : Good n u V → Climbs F n ∧ wdt F n = D ∧ seqV F D n = V ∧ seqN F D n = B := fun hg => by
        have h1 := hg.climbs
        have h2 := hg.wdt hn0
        have h3 := hg.same hn0
        rw [hF] at h1 h2 h3
        rw [hD] at h2 h3
        rw [hB] at h3
        exact ⟨h1, h2, h3.1, h3.2⟩
      rw [hMe] at hM2
      rw [hVe] at hrow hfit
      have HVe := Hid.mk hVe
      have hBpos : 0 < B := by omega
      have hSM : S + M = B := by omega
      have HH := Hid.mk (And.intro hgood (And.intro hbits (And.intro hFe (And.intro hHe (And.intro hM2 (And.intro hfit hdrop))))))
      have HF := Hid.mk hF
      rw [hMe] at hSB
      clear h hR h3 htwo hb1 hb2 hvl hBl ht3 hB hD hS hQ hSB hdrop hgood hbits hFe hHe hM2 hVe hF hfit
      obtain ⟨ib, hib, hib0, hib1, hib2⟩ := info_parts Tryz.infoInt
      go_enter Tryz.func15, Tryz.ntmps15
      go_wp2_with (first
        | (go_at_call 33; refine h1.mono ?_; rintro e w1 ⟨rfl, hx1, hk1⟩; obtain ⟨c0, c1, z0, z1⟩ := wcells2 hx1.mem; have H1 := Hid.mk (And.intro hx1 hk1); clear hx1 hk1 h1)
        | (go_at_call 33; refine (h2 w1 H1.out.1).mono ?_; rintro e w2 ⟨rfl, hx2, hk2⟩; have H2 := Hid.mk (And.intro hx2 (H1.out.2.trans hk2)); clear hx2 hk2 h2 c0 c1 z0 z1)
        | (go_at_call 34; refine (hlow _).mono ?_; rintro e w' ⟨rfl, hw⟩; subst w')
        | (go_at_call 36; refine (hup _).mono ?_; rintro e w' ⟨rfl, hw⟩; subst w')
        | (go_at_call 35; refine (hrow w2 H2.out.1).mono ?_; rintro e w3 ⟨s, rfl, hs3, hx3, hk3⟩; obtain ⟨d0, d1, y0, y1⟩ := wcells2 hx3.mem; obtain ⟨gs, cs, rfl, hcs, _⟩ := own_bools_at hs3 hBpos; have H3 := Hid.mk (And.intro hs3 (And.intro hx3 (And.intro (H2.out.2.trans hk3) hcs))); clear hs3 hx3 hk3 hcs))
      go_loop [8, 9] (fun p i => ∃ k P : Nat, k ≤ D ∧ i = .int .i64 k ∧ p = .int .i64 P ∧ P ≤ 1099511627776 ∧ Hid (P = 2 ^ k)) (fun _ i => D - (intOf i).toNat)
      case atStart => exact ⟨0, 1, Nat.zero_le _, rfl, rfl, by decide, Hid.mk rfl⟩
      case round =>
        obtain ⟨k, P, hk, rfl, rfl, hP, HP⟩ := hrel
        by_cases hkD : k < D
        · have hP2 : P * 2 ≤ 1099511627776 := by
            have h1 : 2 ^ (k + 1) ≤ 2 ^ 40 := Nat.pow_le_pow_right (by decide) (by omega)
            rw [Nat.pow_succ, ← HP.out] at h1
            simpa using h1
          obtain ⟨P2, hP2e⟩ : ∃ P2, P * 2 = P2 := ⟨_, rfl⟩
          have f1 : (P : Int) * 2 = P2 := by omega
          have HP2 := Hid.mk hP2e
          have hwP : IntKind.i64.wrap (P2 : Int) = P2 := by rw [IntKind.wrap_i64]; omega
          have hP2b : P2 ≤ 1099511627776 := by omega
          clear hP2e
          go_wp2
          exact ⟨⟨k + 1, P2, by omega, by go_num, rfl, hP2b, Hid.mk (by rw [Nat.pow_succ, ← HP.out, HP2.out])⟩, by simp [intOf]; omega⟩
        · obtain rfl : D = k := by omega
          have hSMi : (S : Int) ≤ (B : Int) := by omega
          go_wp2
          go_loopw [7, 10, 11] (fun o at_ i wr => ∃ I y A C : Nat, i = .int .i64 I ∧ at_ = .int .i64 A ∧ Hid (I = S + y) ∧ y ≤ M ∧ A ≤ y ∧ C ≤ n ∧ Hid (A + rk H y = y ∧ C = min n (rk H y) ∧ wr.ownsRow w3.heap.size 3 1 o C (ints F C) ∧ More w3 wr)) (fun _ _ i _ => B - (intOf i).toNat)
          case atStart => exact ⟨S, 0, 0, 0, rfl, rfl, Hid.mk rfl, Nat.zero_le _, Nat.le_refl _, Nat.zero_le _, Hid.mk ⟨rfl, by rw [show rk H 0 = 0 from rfl]; omega, World.ownsRow_nil _ _ _ _, Below.refl _ _⟩⟩
          case round =>
            obtain ⟨I, y, A, C, rfl, rfl, hI, hyM, hAy, hCn, HR⟩ := hrel
            obtain ⟨af, cf, rfl⟩ := shape_of HR.out.2.2.1
            by_cases hIB : I < B
            · have hci : wr.cell? ⟨gs, I, none⟩ = some (.bool (V.testBit I)) := (HR.out.2.2.2.cell (p := ⟨gs, I, none⟩) (World.block_lt_of_cell? _ _ (H3.out.2.2.2 I hIB))).trans (H3.out.2.2.2 I hIB)
              have hbit : V.testBit I = H.testBit y := by rw [← HH.out.2.2.2.1, shr_bit, hI.out]
              have hst := rk_step H y
              obtain ⟨bb, hbb⟩ : ∃ bb, H.testBit y = bb := ⟨_, rfl⟩
              rw [hbit, hbb] at hci
              rw [hbb] at hst
              have HB := Hid.mk (And.intro hbb hst)
              clear hbit hbb hst
              have hy1 : y + 1 ≤ M := by have := hI.out; omega
              cases bb with
              | false =>
                go_wp2
                refine ⟨⟨I + 1, y + 1, A + 1, C, by go_num, by go_num, Hid.mk (by have := hI.out; omega), hy1, by omega, hCn, Hid.mk ⟨?_, ?_, HR.out.2.2.1, HR.out.2.2.2⟩⟩, by simp [intOf]; omega⟩
                · have h1 := HB.out.2; have h2 := HR.out.1; simp at h1; omega
                · have h1 := HB.out.2; simp at h1; rw [h1]; exact HR.out.2.1
              | true =>
                by_cases hCl : C < n
                · have hrk : rk H y = C := by have := HR.out.2.1; omega
                  have hpl : pl H M C = y := by rw [← hrk]; exact pl_step H M y (by have := hI.out; omega) HB.out.1
                  have hFC := HH.out.2.2.1 C
                  rw [hpl] at hFC
                  have hyC : y - C = A := by have := HR.out.1; omega
                  rw [hyC, ← HP.out] at hFC
                  have hcut := ref_cut _ B V ((D * C : Nat) : Int) (D : Int) wr (BRd.more (brd_of_own H3.out.1) HR.out.2.2.2) HH.out.2.2.2.2.2.1 (by omega) (by omega) (by have := Nat.mul_le_mul hD40 (show C ≤ 4000 by omega); omega)
                  rw [show min 64 (D : Int).toNat = D by omega, cutV_low V D C] at hcut
                  have hXl : V / 2 ^ (D * C) % 2 ^ D < 2 ^ D := Nat.mod_lt _ (Nat.two_pow_pos D)
                  rw [← HP.out] at hXl hcut
                  obtain ⟨X, hX⟩ : ∃ X, V / 2 ^ (D * C) % P = X := ⟨_, rfl⟩
                  rw [hX] at hXl hcut hFC
                  have hDC : D * C ≤ 160000 := Nat.mul_le_mul hD40 (show C ≤ 4000 by omega)
                  obtain ⟨W, hW⟩ : ∃ W, D * C = W := ⟨_, rfl⟩
                  have f5 : (C : Int) * (D : Int) = (W : Int) := by rw [← hW, Int.natCast_mul, Int.mul_comm]
                  rw [hW] at hcut hDC
                  have hAP : A * P ≤ 8796093022208 := by
                    have h1 : M * 2 ^ D ≤ 8796093022208 := HH.out.2.2.2.2.1
                    rw [← HP.out] at h1
                    exact Nat.le_trans (Nat.mul_le_mul_right P (by omega)) h1
                  obtain ⟨Y, hY⟩ : ∃ Y, A * P = Y := ⟨_, rfl⟩
                  have f6 : (A : Int) * (P : Int) = (Y : Int) := by rw [← hY, Int.natCast_mul]
                  rw [hY] at hFC hAP
                  obtain ⟨Z, hZ⟩ : ∃ Z, Y + X = Z := ⟨_, rfl⟩
                  have f7 : (Y : Int) + (X : Int) = (Z : Int) := by omega
                  have hwY : IntKind.i64.wrap (Y : Int) = Y := by rw [IntKind.wrap_i64]; omega
                  have hwX : IntKind.i64.wrap (X : Int) = X := by rw [IntKind.wrap_i64]; omega
                  have hwW : IntKind.i64.wrap (W : Int) = W := by rw [IntKind.wrap_i64]; omega
                  have hwZ : IntKind.i64.wrap (Z : Int) = Z := by rw [IntKind.wrap_i64]; omega
                  have HFC := Hid.mk (show F C = Z by rw [hFC, hZ])
                  have hCl' : (C : Int) < (n : Int) := by omega
                  have hsw := HR.out.2.2.2.size
                  have HRK := Hid.mk hrk
                  clear hFC hX hW hY hZ hpl hyC hrk
                  go_wp2_with (first
                    | (go_at_call 37; refine hcut.mono ?_; rintro e w' ⟨rfl, hw⟩; subst w')
                    | (at_builtin; refine wpList_append_own _ rfl (.tmp 71) (.tmp 84) 22 rfl w3.heap.size 3 ib (.int .i64 0) 1 8 Tryz.underlying22 hib hib0 hib1 hib2 rfl (by decide) _ _ _ rfl (HR.out.2.2.1.alloc _) ⟨_, 0, none⟩ 1 1 [.int .i64 (Z : Int)] rfl rfl (one_cell _ _ _) (one_i64 _) (by unfold maxLen; omega) (by omega) (by simp; omega) ?_))
                  intro v4 w4 hown4 hgrow4 _
                  rw [← HFC.out, ← ints_succ] at hown4
                  have hm4 : More w3 w4 := (Below.alloc HR.out.2.2.2 hsw _).grown hgrow4 (by simp; omega) (fun j hj => (HR.out.2.2.1.lt j hj).1)
                  have H4 := Hid.mk (And.intro hown4 hm4)
                  clear hown4 hgrow4 hm4
                  go_wp2
                  refine ⟨⟨I + 1, y + 1, A, C + 1, by go_num, rfl, Hid.mk (by have := hI.out; omega), hy1, by omega, by omega, Hid.mk ⟨?_, ?_, H4.out.1, H4.out.2⟩⟩, by simp [intOf]; omega⟩
                  · have h1 := HB.out.2; have h2 := HR.out.1; simp at h1; omega
                  · have h1 := HB.out.2; have h2 := HRK.out; simp at h1; omega
                · have hCl' : ¬ (C : Int) < (n : Int) := by omega
                  go_wp2
                  refine ⟨⟨I + 1, y + 1, A, C, by go_num, rfl, Hid.mk (by have := hI.out; omega), hy1, by omega, hCn, Hid.mk ⟨?_, ?_, HR.out.2.2.1, HR.out.2.2.2⟩⟩, by simp [intOf]; omega⟩
                  · have h1 := HB.out.2; have h2 := HR.out.1; simp at h1; omega
                  · have h1 := HB.out.2; have h2 := HR.out.2.1; simp at h1; omega
            · obtain rfl : M = y := by have := hI.out; omega
              have hIB' : ¬ (I : Int) < (B : Int) := by omega
              have hCe := HR.out.2.1
              have hxr := H3.out.2.1.more HR.out.2.2.2
              have hkr : KeepsT XT base w wr := H3.out.2.2.1.trans (KeepsT.more HR.out.2.2.2 H3.out.2.1.sz)
              obtain ⟨f0, f1, g0, g1⟩ := wcells2 hxr.mem
              have hset := hxr.errs (E' := 3)
              have HX := Hid.mk (And.intro hxr (And.intro hkr (And.intro hset.1 (hkr.trans hset.2))))
              have hws : w.heap.size ≤ w3.heap.size := H3.out.2.2.1.below.size
              have HC := Hid.mk hCe
              clear hxr hkr hset hCe d0 d1 y0 y1
              by_cases hCn2 : C = n
              · obtain rfl := hCn2.symm
                obtain ⟨N1, hN1⟩ : ∃ N1, n - 1 = N1 := ⟨_, rfl⟩
                have e5 : (n : Int) - 1 = (N1 : Int) := by omega
                have hN1b : N1 < n := by omega
                obtain ⟨go, co, hs, hco, _⟩ := own_ints_at HR.out.2.2.1 (by omega)
                obtain ⟨rfl, rfl⟩ : af = some ⟨go, 0, none⟩ ∧ cf = co := by simpa using hs
                have hcN := hco N1 hN1b
                obtain ⟨Z, hZ⟩ : ∃ Z, F N1 = Z := ⟨_, rfl⟩
                rw [hZ] at hcN
                have HZ := Hid.mk (And.intro hN1 hZ)
                clear hN1 hZ hs hco
                by_cases hZu : Z = u
                · rw [hZu] at hcN
                  have HZu := Hid.mk hZu
                  have hwrg := ref_wrong _ n (fun j => (F j : Int)) wr (zrd_own HR.out.2.2.1) (by omega)
                  by_cases hw0 : wrg (fun j => (F j : Int)) n = 0
                  · have hg : Good n u V := HH.out.1.2 ⟨HC.out.symm, by rw [HZ.out.1, HZ.out.2]; exact hZu, hw0⟩
                    have hb := HH.out.2.1 hg
                    have hbt := fun (w' : World) (hm : More wr w') => rsb_bits _ n F w' ((zrd_own HR.out.2.2.1).more hm) hb.1 hn4
                    rw [hb.2.1, hb.2.2.1, hb.2.2.2] at hbt
                    have hrw := BRd.more (brd_of_own H3.out.1) HR.out.2.2.2
                    have hsm := fun sb (w' : World) (hm : More wr w') (hbb : BRd w' sb B V) => rsb_same sb _ B V w' hbb (hrw.more hm) (by omega)
                    rw [hw0] at hwrg
                    have HG := Hid.mk hg
                    clear hg hb hrw hw0 hZu
                    go_wp2_with (first
                      | (go_at_call 38; refine hwrg.mono ?_; rintro e w5 ⟨rfl, m5, hw5⟩; have hm5 : More wr w5 := (by rw [hw5]; exact More.drewN wr m5); have H5 := Hid.mk hm5; clear hw5 hm5)
                      | (go_at_call 31; refine (hbt w5 H5.out).mono ?_; rintro e w6 ⟨s6, rfl, hs6, hm6⟩; have H6 := Hid.mk (And.intro (brd_of_own hs6) (More.trans H5.out hm6)); clear hs6 hm6)
                      | (go_at_call 39; refine (hsm s6 w6 H6.out.2 H6.out.1).mono ?_; rintro e w7 ⟨rfl, m7, hw7⟩; have hm7 : More wr w7 := (by rw [hw7]; exact More.trans H6.out.2 (More.drewN w6 m7)); have H7 := Hid.mk hm7; clear hw7 hm7))
                    go_ret
                    refine ⟨HX.out.2.1.trans (KeepsT.more H7.out HX.out.1.sz), .inr (.inl ⟨rfl, by rw [HVe.out]; exact HG.out, by rw [← HH.out.2.2.2.2.2.2]; exact HX.out.1.more H7.out, _, rfl, ?_⟩)⟩
                    rw [HVe.out, HF.out]
                    exact own_lower (More.own HR.out.2.2.1 H7.out) hws
                  · have hng : ¬ Good n u V := fun hg => hw0 (HH.out.1.1 hg).2.2
                    obtain ⟨G, hG⟩ : ∃ G, wrg (fun j => (F j : Int)) n = G := ⟨_, rfl⟩
                    rw [hG] at hwrg hw0
                    have HG := Hid.mk hng
                    clear hng hG hZu
                    go_wp2_with (go_at_call 38; refine hwrg.mono ?_; rintro e w5 ⟨rfl, m5, hw5⟩; have hm5 : More wr w5 := (by rw [hw5]; exact More.drewN wr m5); have hx5 := HX.out.1.more hm5; obtain ⟨p0, p1, q0, q1⟩ := wcells2 hx5.mem; have hset := hx5.errs (E' := 3); have H5 := Hid.mk (And.intro hset.1 ((HX.out.2.1.trans (KeepsT.more hm5 HX.out.1.sz)).trans hset.2)); clear hw5 hm5 hx5 hset f0 f1 g0 g1)
                    go_ret
                    exact ⟨H5.out.2, .inr (.inr ⟨rfl, by rw [HVe.out]; exact HG.out, rfl, by rw [← HH.out.2.2.2.2.2.2]; exact H5.out.1⟩)⟩
                · have hZu' : ¬ (Z : Int) = (u : Int) := by omega
                  have hng : ¬ Good n u V := fun hg => hZu (by have := (HH.out.1.1 hg).2.1; rw [HZ.out.1, HZ.out.2] at this; exact this)
                  have HG := Hid.mk hng
                  clear hng
                  go_wp2
                  go_ret
                  exact ⟨HX.out.2.2.2, .inr (.inr ⟨rfl, by rw [HVe.out]; exact HG.out, rfl, by rw [← HH.out.2.2.2.2.2.2]; exact HX.out.2.2.1⟩)⟩
              · have hCn' : ¬ (C : Int) = (n : Int) := by omega
                go_wp2
                go_ret
                refine ⟨HX.out.2.2.2, .inr (.inr ⟨rfl, fun hg => hCn2 ?_, rfl, by rw [← HH.out.2.2.2.2.2.2]; exact HX.out.2.2.1⟩)⟩
                rw [HVe.out] at hg
                rw [HC.out]
                exact (HH.out.1.1 hg).1
    · have hrow := fun w1 (h : XAt w1 base x ((l.drop t1).drop t2) 0) => docRow_form base x 0 B t3 (B : Int) v _ w1 h (by omega) (by omega) h3 hfit
      have HH := Hid.mk (And.intro (show ¬ Good n u (ofB v) from fun hg => hfit (by have := hg.fit; rw [hB] at this; exact this)) hdrop)
      clear h hR h3 hfit htwo hb1 hb2 hvl hBl ht3 hB hD hS hQ hSB hdrop
      go_enter Tryz.func15, Tryz.ntmps15
      go_wp2_with (first
        | (go_at_call 33; refine h1.mono ?_; rintro e w1 ⟨rfl, hx1, hk1⟩; obtain ⟨c0, c1, z0, z1⟩ := wcells2 hx1.mem; have H1 := Hid.mk (And.intro hx1 hk1); clear hx1 hk1 h1)
        | (go_at_call 33; refine (h2 w1 H1.out.1).mono ?_; rintro e w2 ⟨rfl, hx2, hk2⟩; have H2 := Hid.mk (And.intro hx2 (H1.out.2.trans hk2)); clear hx2 hk2 h2 c0 c1 z0 z1)
        | (go_at_call 34; refine (hlow _).mono ?_; rintro e w' ⟨rfl, hw⟩; subst w')
        | (go_at_call 36; refine (hup _).mono ?_; rintro e w' ⟨rfl, hw⟩; subst w')
        | (go_at_call 35; refine (hrow w2 H2.out.1).mono ?_; rintro e w3 ⟨rfl, hx3, hk3⟩; obtain ⟨d0, d1, y0, y1⟩ := wcells2 hx3.mem; have H3 := Hid.mk (And.intro hx3 (H2.out.2.trans hk3)); clear hx3 hk3))
      go_ret
      exact ⟨H3.out.2, .inr (.inr ⟨rfl, HH.out.1, rfl, by rw [← HH.out.2]; exact H3.out.1⟩)⟩
  · have hrow := fun w1 (h : XAt w1 base x ((l.drop t1).drop t2) er2) => docRow_err base x er2 B t3 er (B : Int) v _ w1 h (by omega) (by omega) h3 h0
    have h0' : ¬ (er : Int) = 0 := by omega
    have HH := Hid.mk hdrop
    clear h hR h3 htwo hb1 hb2 hB hD hS hQ hSB hdrop
    go_enter Tryz.func15, Tryz.ntmps15
    go_wp2_with (first
      | (go_at_call 33; refine h1.mono ?_; rintro e w1 ⟨rfl, hx1, hk1⟩; obtain ⟨c0, c1, z0, z1⟩ := wcells2 hx1.mem; have H1 := Hid.mk (And.intro hx1 hk1); clear hx1 hk1 h1)
      | (go_at_call 33; refine (h2 w1 H1.out.1).mono ?_; rintro e w2 ⟨rfl, hx2, hk2⟩; have H2 := Hid.mk (And.intro hx2 (H1.out.2.trans hk2)); clear hx2 hk2 h2 c0 c1 z0 z1)
      | (go_at_call 34; refine (hlow _).mono ?_; rintro e w' ⟨rfl, hw⟩; subst w')
      | (go_at_call 36; refine (hup _).mono ?_; rintro e w' ⟨rfl, hw⟩; subst w')
      | (go_at_call 35; refine (hrow w2 H2.out.1).mono ?_; rintro e w3 ⟨rfl, hx3, hk3⟩; obtain ⟨d0, d1, y0, y1⟩ := wcells2 hx3.mem; have H3 := Hid.mk (And.intro hx3 (H2.out.2.trans hk3)); clear hx3 hk3))
    go_ret
    exact ⟨H3.out.2, .inl ⟨h0, rfl, by rw [← HH.out]; exact H3.out.1⟩⟩

theorem rsb_getSeq (base x E n u t1 er1 t2 er2 t3 er : Nat) (v l : List UInt8) (w : World) (h : XAt w base x l E) (hfew : er = 0 → n ≤ 4000 ∧ gBits n u ≤ 1000000) (hR : Reads l E n u v t1 er1 t2 er2 t3 er) :
    Calls Tryz.prog 15 #[.pointer (some ⟨x, 0, none⟩)] w fun e w' => DocSeq w base x l n u v (t1 + t2 + t3) er e w' := by
  by_cases hn : n = 0
  · subst hn; exact rsb_getSeq_none base x E u t1 er1 t2 er2 t3 er v l w h hR
  · exact rsb_getSeq_some base x E n u t1 er1 t2 er2 t3 er v l w h hn hfew hR

end Go.Proofs.YtbjgbigalfhnjaaGreatDoor
