/-
  BlockKeeps, walked.
-/
import Derived.Test.YtpmgojnlbmiaeaaBlkLawC
namespace Go.Proofs.Ytpmgojnlbmiaeaa
open Go.RowKit

/-- A store of which block 0 has the text t. -/
def KS (w : World) (base b m : Nat) (t : List UInt8) : Prop := ∃ N tk tx, 1 ≤ N ∧ N ≤ m ∧ SX w base b 300 1000 N tk tx ∧ tk 0 = true ∧ tx 0 = t
theorem KS.more {w w' : World} {base b m : Nat} {t : List UInt8} (h : KS w base b m t) (k : More w w') : KS w' base b m t := by
  obtain ⟨N, tk, tx, h1, h2, h3, h4, h5⟩ := h
  exact ⟨N, tk, tx, h1, h2, h3.more k, h4, h5⟩
theorem KS.wider {w : World} {base b m : Nat} {t : List UInt8} (h : KS w base b m t) : KS w base b (m + 1) t := by
  obtain ⟨N, tk, tx, h1, h2, h3⟩ := h
  exact ⟨N, tk, tx, h1, by omega, h3⟩
section
variable {w : World} {base b m : Nat} {t : List UInt8}
theorem ks_alloc (h : KS w base b m t) (hm : m ≤ 100) : Calls Try.prog 16 #[.pointer (some ⟨b, 0, none⟩)] w fun e w' => ∃ a : Nat, 0 < a ∧ e = .returned (.tuple #[.int .i64 a, .int .i64 0]) ∧ KS w' base b (m + 1) t ∧ Below base w w' := by
  obtain ⟨N, tk, tx, h1, h2, h3, h4, h5⟩ := h
  refine (st_Alloc h3 (by have := cnt_le tk N; omega)).mono ?_
  rintro e w' ⟨a, rfl, hf, hS, hK⟩
  have ha : 0 < a := by
    rcases Nat.eq_zero_or_pos a with rfl | e
    · have := hf.2.2 (by omega)
      rw [h4] at this; cases this
    · exact e
  exact ⟨a, ha, rfl, ⟨_, _, _, by omega, by have := hf.1; omega, hS, by rw [upd_ne _ _ (by omega)]; exact h4, by rw [upd_ne _ _ (by omega)]; exact h5⟩, hK.below⟩
theorem ks_write (h : KS w base b m t) (id : Int) (h0 : id ≠ 0) (i1 : -9223372036854775808 ≤ id) (i2 : id ≤ 9223372036854775807) (s : List UInt8) : Calls Try.prog 17 #[.pointer (some ⟨b, 0, none⟩), .int .i64 id, .string (bs s)] w fun e w' => (∃ r : Int, e = .returned (.int .i64 r)) ∧ KS w' base b m t ∧ Below base w w' := by
  obtain ⟨N, tk, tx, h1, h2, h3, h4, h5⟩ := h
  rcases has_or N tk id with hn | ⟨k, rfl, hk, ht⟩
  · refine (st_Write_no h3 id hn i1 i2 _).mono ?_
    rintro e w' ⟨rfl, rfl⟩
    exact ⟨⟨7, rfl⟩, ⟨N, tk, tx, h1, h2, h3, h4, h5⟩, Below.refl _ _⟩
  · by_cases hl : 300 < s.length
    · refine (st_Write_long h3 hk ht s hl).mono ?_
      rintro e w' ⟨rfl, rfl⟩
      exact ⟨⟨5, rfl⟩, ⟨N, tk, tx, h1, h2, h3, h4, h5⟩, Below.refl _ _⟩
    · refine (st_Write h3 hk ht s (by omega)).mono ?_
      rintro e w' ⟨rfl, hS, hK⟩
      exact ⟨⟨0, rfl⟩, ⟨N, tk, _, h1, h2, hS, h4, by rw [upd_ne _ _ (by omega)]; exact h5⟩, hK.below⟩
theorem ks_free (h : KS w base b m t) (id : Int) (h0 : id ≠ 0) (i1 : -9223372036854775808 ≤ id) (i2 : id ≤ 9223372036854775807) : Calls Try.prog 18 #[.pointer (some ⟨b, 0, none⟩), .int .i64 id] w fun e w' => (∃ r : Int, e = .returned (.int .i64 r)) ∧ KS w' base b m t ∧ Below base w w' := by
  obtain ⟨N, tk, tx, h1, h2, h3, h4, h5⟩ := h
  rcases has_or N tk id with hn | ⟨k, rfl, hk, ht⟩
  · refine (st_Free_no h3 id hn i1 i2).mono ?_
    rintro e w' ⟨rfl, rfl⟩
    exact ⟨⟨7, rfl⟩, ⟨N, tk, tx, h1, h2, h3, h4, h5⟩, Below.refl _ _⟩
  · refine (st_Free h3 hk ht).mono ?_
    rintro e w' ⟨rfl, hS, hK⟩
    exact ⟨⟨0, rfl⟩, ⟨N, _, _, h1, h2, hS, by rw [upd_ne _ _ (by omega)]; exact h4, by rw [upd_ne _ _ (by omega)]; exact h5⟩, hK.below⟩
theorem ks_read (h : KS w base b m t) : Calls Try.prog 13 #[.pointer (some ⟨b, 0, none⟩), .int .i64 0] w fun e w' => e = .returned (.tuple #[.string (bs t), .int .i64 0]) ∧ More w w' := by
  obtain ⟨N, tk, tx, h1, h2, h3, h4, h5⟩ := h
  refine (st_Read h3 (k := 0) (by omega) h4).mono ?_
  rintro e w' ⟨rfl, q, rfl⟩
  rw [h5]
  exact ⟨rfl, More.drewN w q⟩
end

section
variable {w : World} {v : Value} {n : Nat} {ak ai : Nat → Int} {at_ : Nat → List UInt8} {t : List UInt8}
set_option maxHeartbeats 1000000 in
set_option maxRecDepth 1000000 in
theorem keeps_big (h : ActRd w v n ak ai at_) (hb : 60 < n ∨ 300 < t.length) :
    Calls Try.prog 4 #[v, .string (bs t)] w fun e w' => e = .returned (.bool true) ∧ More w w' := by
  obtain ⟨ao, cap, rfl, _⟩ := h.opened
  have hsz : (bs t).size = t.length := bs_size t
  have hor : (60 : Int) < (n : Int) ∨ (¬ (60 : Int) < (n : Int) ∧ (300 : Int) < (t.length : Int)) := by omega
  generalize t.length = L at *
  clear h hb
  rcases hor with hn' | ⟨hn', hl'⟩
  all_goals
    go_enter Try.func4, Try.ntmps4
    go_wp2_with (go_at_call 6; refine (live_true _).mono ?_; rintro e w5 ⟨rfl, hm⟩; have H5 := Hid.mk hm; clear hm)
    go_ret
    exact ⟨rfl, H5.out⟩
end

set_option maxHeartbeats 8000000 in
set_option maxRecDepth 1000000 in
theorem keeps_small (w : World) (v : Value) (n : Nat) (ak ai : Nat → Int) (at_ : Nat → List UInt8) (t : List UInt8) (h : ActRd w v n ak ai at_) (hn : n ≤ 60) (ht : t.length ≤ 300)
    (hid : ∀ k, k < n → -9223372036854775808 ≤ ai k ∧ ai k ≤ 9223372036854775807) :
    Calls Try.prog 4 #[v, .string (bs t)] w fun e w' => e = .returned (.bool true) ∧ More w w' := by
  obtain ⟨ao, cap, rfl, hc⟩ := h.opened
  have hn' : ¬ (60 : Int) < (n : Int) := by omega
  have hsz : (bs t).size = t.length := bs_size t
  have hnw := st_New 300 1000 (by decide) (by decide) (by decide) (by decide) (fun _ => false) (fun _ => []) w
  have HC := Hid.mk (And.intro hc (And.intro hid ht))
  obtain ⟨Lt, hLt⟩ : ∃ Lt, t.length = Lt := ⟨_, rfl⟩
  rw [hLt] at hsz ht
  clear h hc hid hLt
  go_enter Try.func4, Try.ntmps4
  go_wp2_with (first
    | (go_at_call 7; refine hnw.mono ?_; clear hnw; rintro e w1 ⟨rfl, hS1, hm1⟩; have hA1 := sx_Alloc hS1 (by decide) (a := 0) ⟨by decide, fun i hi => by omega, fun h => by omega⟩; have H1 := Hid.mk hm1; clear hS1 hm1)
    | (go_at_call 16; refine hA1.mono ?_; clear hA1; rintro e w2 ⟨rfl, hS2, hK2⟩; have hW2 := st_Write hS2 (k := 0) (by decide) rfl t HC.out.2.2; have H2 := Hid.mk (Below.trans H1.out hK2.below); clear hS2 hK2)
    | (go_at_call 17; refine hW2.mono ?_; clear hW2; rintro e w3 ⟨rfl, hS3, hK3⟩; have hKS : KS w3 w.heap.size w.heap.size 1 t := ⟨_, _, _, Nat.le_refl _, Nat.le_refl _, hS3, rfl, upd_at _ _ _⟩; have H3 := Hid.mk (And.intro hKS (Below.trans H2.out hK3.below)); clear hS3 hK3 hKS))
  go_loopw [9] (fun iv wr => ∃ k : Nat, k ≤ n ∧ iv = .int .i64 k ∧ Hid (KS wr w.heap.size w.heap.size (k + 1) t ∧ More w wr)) (fun iv _ => n - (intOf iv).toNat)
  case atStart => exact ⟨0, Nat.zero_le _, rfl, H3⟩
  case round =>
    clear H3
    obtain ⟨k, hk, rfl, HR⟩ := hrel
    by_cases hlt : k < n
    · obtain ⟨g, o, rfl, hcell⟩ := HC.out.1 k hlt
      obtain ⟨c0, c1, c2⟩ := hcell wr HR.out.2
      obtain ⟨i1, i2⟩ := HC.out.2.1 k hlt
      have HC2 := Hid.mk hcell
      clear hcell
      obtain ⟨K, hK⟩ : ∃ K, ak k = K := ⟨_, rfl⟩
      obtain ⟨I, hI⟩ : ∃ I, ai k = I := ⟨_, rfl⟩
      obtain ⟨s, hs⟩ : ∃ s, at_ k = s := ⟨_, rfl⟩
      rw [hK] at c0
      rw [hI] at c1 i1 i2
      rw [hs] at c2
      have hss : (bs s).size = s.length := bs_size s
      obtain ⟨L, hL⟩ : ∃ L, s.length = L := ⟨_, rfl⟩
      rw [hL] at hss
      have HKK := Hid.mk (And.intro hK (And.intro hI hs))
      clear hK hI hs hL
      by_cases h0 : I = 0
      · subst h0
        go_wp2_with (go_at_call 6; refine (live_true _).mono ?_; rintro e w5 ⟨rfl, hm⟩; have H5 := Hid.mk hm; clear hm)
        go_ret
        exact ⟨rfl, More.trans HR.out.2 H5.out⟩
      · have e0 : (I == 0) = false := by simpa using h0
        by_cases hl : 300 < L
        · go_wp2_with (go_at_call 6; refine (live_true _).mono ?_; rintro e w5 ⟨rfl, hm⟩; have H5 := Hid.mk hm; clear hm)
          go_ret
          exact ⟨rfl, More.trans HR.out.2 H5.out⟩
        · have HI := Hid.mk (And.intro h0 (And.intro i1 i2))
          clear h0 i1 i2
          by_cases hk01 : K = 0 ∨ K = 1
          · have hal := ks_alloc HR.out.1 (by omega)
            rcases hk01 with rfl | rfl
            all_goals
              go_wp2_with (go_at_call 16; refine hal.mono ?_; clear hal; rintro e w4 ⟨a, ha, rfl, hKS, hB⟩; have ea : ((a : Int) == 0) = false := (by simp; omega); have H4 := Hid.mk (And.intro hKS (Below.trans HR.out.2 (hB.mono (Nat.le_refl _)))); clear ha hKS hB)
              exact ⟨⟨k + 1, by omega, by go_num, H4⟩, by simp [intOf]; omega⟩
          · by_cases hk2 : K = 2
            · subst hk2
              have hwr := ks_write (HR.out.1.more (More.drewN wr 1)) I HI.out.1 HI.out.2.1 HI.out.2.2 s
              have HS0 := Hid.mk (And.intro c1 c2)
              go_wp2_with fail
              go_region_held (fun w' => w'.cell? ⟨g, o + k * 3 + 1, none⟩ = some (.int .i64 I) ∧ w'.cell? ⟨g, o + k * 3 + 2, none⟩ = some (.string (bs s)))
                (first | assumption | exact HS0.out)
                (first
                  | (go_at_call 17; refine hwr.mono ?_; clear hwr; rintro e w4 ⟨⟨r, rfl⟩, hKS, hB⟩; have H4 := Hid.mk (And.intro hKS.wider (Below.trans HR.out.2 ((More.drewN wr 1).mono HR.out.2.size |>.trans hB))); obtain ⟨_, q1, q2⟩ := HC2.out w4 H4.out.2; rw [HKK.out.2.1] at q1; rw [HKK.out.2.2] at q2; have hq := And.intro q1 q2; clear hKS hB q1 q2))
              all_goals
                go_wp2
                exact ⟨⟨k + 1, by omega, by go_num, H4⟩, by simp [intOf]; omega⟩
            · by_cases hk4 : K = 4
              · subst hk4
                have hfr := ks_free HR.out.1 I HI.out.1 HI.out.2.1 HI.out.2.2
                go_wp2_with (go_at_call 18; refine hfr.mono ?_; clear hfr; rintro e w4 ⟨⟨r, rfl⟩, hKS, hB⟩; have H4 := Hid.mk (And.intro hKS.wider (Below.trans HR.out.2 hB)); clear hKS hB)
                exact ⟨⟨k + 1, by omega, by go_num, H4⟩, by simp [intOf]; omega⟩
              · have k0 : (K == 0) = false := by simp; omega
                have k1 : (K == 1) = false := by simp; omega
                have k2 : (K == 2) = false := by simpa using hk2
                have k4 : (K == 4) = false := by simpa using hk4
                clear hk01 hk2 hk4
                go_wp2
                exact ⟨⟨k + 1, by omega, by go_num, Hid.mk ⟨HR.out.1.wider, HR.out.2⟩⟩, by simp [intOf]; omega⟩
    · obtain rfl : k = n := by omega
      have hrd := ks_read HR.out.1
      go_wp2_with (first
        | (go_at_call 13; refine hrd.mono ?_; clear hrd; rintro e w4 ⟨rfl, hm⟩; have H4 := Hid.mk (More.trans HR.out.2 hm); clear hm)
        | (go_at_call 6; refine (live_true _).mono ?_; rintro e w5 ⟨rfl, hm⟩; have H5 := Hid.mk hm; clear hm))
      go_ret
      exact ⟨rfl, More.trans H4.out H5.out⟩
theorem blockKeeps (v : Value) (n : Nat) (ak ai : Nat → Int) (at_ : Nat → List UInt8) (t : List UInt8) (w : World) (h : ActRd w v n ak ai at_) (hid : ∀ k, k < n → -9223372036854775808 ≤ ai k ∧ ai k ≤ 9223372036854775807) :
    Calls Try.prog 4 #[v, .string (bs t)] w fun e w' => e = .returned (.bool true) ∧ More w w' := by
  by_cases hb : 60 < n ∨ 300 < t.length
  · exact keeps_big h hb
  · exact keeps_small w v n ak ai at_ t h (by omega) (by omega) hid
end Go.Proofs.Ytpmgojnlbmiaeaa
