/-
  SeqbinSeqs walked.
-/
import Derived.Test.YtbfolfacppbalaaDoorSbLive
import Derived.Test.YtbfolfacppbalaaDoorSbRefB
import Derived.Test.YtbfolfacppbalaaDoorSeqB
import Derived.Test.YtbfolfacppbalaaDoorSbRefD
namespace Go.Proofs.YtbfolfacppbalaaDoor
open Go.RowKit

theorem size_congr {f g : Nat → Nat} {n : Nat} (h : ∀ i, i < n → g i = f i) : sizeN g (wdt g n) n = sizeN f (wdt f n) n := by
  have hl : lst g n = lst f n := by
    cases n with
    | zero => rfl
    | succ n => exact h n (by omega)
  have hw : wdt g n = wdt f n := by unfold wdt; rw [hl]
  unfold sizeN
  rw [hw]
  cases n with
  | zero => rfl
  | succ n => rw [hN, hN, hp, hp, h n (by omega)]
theorem climbs_of {g : Nat → Int} {K : Nat} (h : wrg g K = 0) : (∀ j, j < K → g j = ((g j).toNat : Nat)) ∧ Climbs (fun j => (g j).toNat) K := wrg_climbs g K h

set_option maxHeartbeats 3200000 in
set_option maxRecDepth 1000000 in
theorem sb_seqs_good (v : Value) (K : Nat) (f : Nat → Nat) (sl : List UInt8) (w : World) (h : ZRd w v K (fun j => (f j : Int))) (hC : Climbs f K) (hK : K ≤ 60) (hsl : sl.length ≤ 200) (hT : TabIn w) :
    Calls Tryd.prog 5 #[v, .string (bs sl)] w fun e w' => e = .returned (.bool true) ∧ More w w' := by
  have hb0 := tab_pos hT
  have hwr := ref_wrong v K _ w h (by omega)
  rw [wrg_none hC K (Nat.le_refl _)] at hwr
  have hsz : (bs sl).size = sl.length := bs_size sl
  have hnew := fun (w' : World) (hm : More w w') => el_new v K f w' (h.more hm) hC (by omega)
  have hrs := fun (w' : World) (hm : More w w') => rsb_seq v K f w' (h.more hm) hC (by omega)
  have hze := fun (w' : World) (hm : More w w') => ref_size v K f w' (h.more hm) hC (by omega)
  have hcl := fun (w' : World) (hm : More w w') => h.more hm
  obtain ⟨ao, cap, rfl⟩ := h.shape
  have hsb : (seqB f K).length ≤ 1000 := by
    by_cases h0 : K = 0
    · subst h0; rw [seqB_none]; have := (num_ten (v := 0) (by decide)).1; omega
    · rw [seqB_some f h0]
      have h1 := (num_ten (v := K) (by omega)).1
      have h2 := (num_ten (v := lst f K) (by have := lst_le hC; omega)).1
      have h3 := seqN_le hC
      simp only [List.length_append, rby_len, nby_is]
      omega
  have hadd := fun w => add_sum (seqB f K) sl (by omega) w
  obtain ⟨L, hL⟩ : ∃ L, seqB f K = L := ⟨_, rfl⟩
  have hput := fun base wb base' s (w' : World) (h1 : WrAt w' base wb []) h2 (h3 : SeqAt w' base' s f K) h4 => sb_putSeq base wb base' s f K [] w' h1 h2 h3 h4 (by omega) (by decide)
  have hget := fun base b (w' : World) (h1 : RdAt w' base b (L ++ sl) 0 0) h2 h3 => sb_getBack hC (show K ≤ 4000 by omega) base b sl (L ++ sl) w' (by rw [hL]) h1 h2 h3
  have hopen := fun w => rd_open (L ++ sl) (by rw [List.length_append, ← hL]; omega) w
  rw [hL] at hrs hadd hsb
  simp only [hL, List.nil_append] at hput
  simp only [hL] at hget
  obtain ⟨Z, hZ⟩ : ∃ Z, L ++ sl = Z := ⟨_, rfl⟩
  rw [hZ] at hopen
  simp only [hZ] at hadd hget
  have hdl : Hid ((Z.drop L.length).length = sl.length) := Hid.mk (by rw [← hZ, List.drop_left])
  obtain ⟨M, hM⟩ : ∃ M, sl.length = M := ⟨_, rfl⟩
  rw [hM] at hsz hsl hdl
  have HH := Hid.mk (And.intro hT hcl)
  obtain ⟨SZ, hSZ⟩ : ∃ SZ, sizeN f (wdt f K) K = SZ := ⟨_, rfl⟩
  rw [hSZ] at hze
  have HS := Hid.mk hSZ
  clear h hC hT hcl hL hZ hM hSZ
  go_enter Tryd.func5, Tryd.ntmps5
  go_wp2_with (first
    | (go_at_call 32; refine hwr.mono ?_; rintro e w1 ⟨rfl, m1, hw1⟩; have hm1 : More w w1 := (by rw [hw1]; exact More.drewN w m1); have H1 := Hid.mk (And.intro hm1 (More.tab HH.out.1 hm1)); clear hw1 hm1 hwr)
    | (go_at_call 33; refine (hnew w1 H1.out.1).mono ?_; rintro e w2 ⟨s, rfl, hs2, hm2⟩; have H2 := Hid.mk (And.intro hs2 (And.intro (More.trans H1.out.1 hm2) (More.tab H1.out.2 hm2))); clear hs2 hm2 hnew)
    | (go_at_call 34; refine (hput w2.heap.size w2.heap.size _ s _ (WrAt.new w2) (tab_pos H2.out.2.2) (H2.out.1.more (More.alloc _ _)) (More.tab H2.out.2.2 (More.alloc _ _))).mono ?_; rintro e w3 ⟨rfl, hw3, hk3⟩; have hm3 : More w2 w3 := Below.trans (More.alloc w2 _) (hk3.below); have H3 := Hid.mk (And.intro hw3 (And.intro (More.trans H2.out.2.1 hm3) (More.tab H2.out.2.2 hm3))); have hby3 := wr_bytes _ _ _ w3 hw3; clear hw3 hk3 hm3 hput)
    | (go_at_call 11; refine hby3.mono ?_; rintro e w' ⟨rfl, hw⟩; subst w'; clear hby3)
    | (go_at_call 35; refine (hrs w3 H3.out.2.1).mono ?_; rintro e w4 ⟨rfl, hm4⟩; have H4 := Hid.mk (And.intro (H3.out.1.more hm4) (And.intro (More.trans H3.out.2.1 hm4) (More.tab H3.out.2.2 hm4))); have hby4 := wr_bytes _ _ _ w4 H4.out.1; clear hm4 hrs)
    | (go_at_call 11; refine hby4.mono ?_; rintro e w' ⟨rfl, hw⟩; subst w'; clear hby4)
    | (go_at_call 10; refine (hopen w4).mono ?_; rintro e w5 ⟨rfl, hr5, hm5⟩; have H5 := Hid.mk (And.intro hr5 (And.intro (More.trans H4.out.2.1 hm5) (And.intro (More.tab H4.out.2.2 hm5) hm5))); clear hr5 hm5 hopen)
    | (go_at_call 36; refine (hget w4.heap.size w4.heap.size w5 H5.out.1 H5.out.2.2.1 (tab_pos H4.out.2.2)).mono ?_; rintro e w6 ⟨q, g, rfl, hq6, hg6, hr6, hk6⟩; have hm6 : More w w6 := Below.trans H4.out.2.1 ((Below.trans H5.out.2.2.2 hk6.below).mono H4.out.2.1.size); have H6 := Hid.mk (And.intro hq6 (And.intro hg6 (And.intro hr6 (And.intro hm6 (More.tab HH.out.1 hm6))))); clear hq6 hg6 hr6 hk6 hm6 hget))
  go_loopw [10] (fun i wr => ∃ k : Nat, k ≤ K ∧ i = .int .i64 k ∧ Hid (More w6 wr)) (fun i _ => K - (intOf i).toNat)
  case atStart => exact ⟨0, Nat.zero_le _, rfl, Hid.mk (Below.refl _ _)⟩
  case round =>
    obtain ⟨k, hk, rfl, HR⟩ := hrel
    by_cases hkK : k < K
    · have hmr := More.trans H6.out.2.2.2.1 HR.out
      obtain ⟨g0, o0, rfl, hc⟩ := (HH.out.2 wr hmr).cell (w' := wr) k hkK
      have hck := hc (Below.refl _ _)
      have hat := fun (w' : World) (hm : More wr w') => el_at _ q g K (k : Int) w' (H6.out.1.more (More.trans HR.out hm))
      rw [atZ_in g K k hkK, H6.out.2.1 k hkK] at hat
      obtain ⟨X, hX⟩ : ∃ X, f k = X := ⟨_, rfl⟩
      rw [hX] at hat hck
      have l1 : ∀ u : Lat wr, u.val.cell? ⟨g0, o0 + k, none⟩ = some (.int .i64 (X : Nat)) := fun u => (u.more.cell (p := ⟨g0, o0 + k, none⟩) (World.block_lt_of_cell? wr _ hck)).trans hck
      have k1 : ∀ u : Lat wr, Calls Tryd.prog 37 #[.pointer (some ⟨q, 0, none⟩), .int .i64 k] u.val fun e w' => e = .returned (.int .i64 (X : Nat)) ∧ ∃ u' : Lat wr, w' = u'.val := fun u => (hat u.val u.more).mono fun e w' ⟨he, hm⟩ => ⟨he, u.grown hm⟩
      have hne : Nonempty (Lat wr) := Lat.any wr
      clear hc hck hX hmr hat
      go_wp2
      refine wp_region_lat (by kernel_rfl) (by kernel_rfl) ?_
      repeat (quiet_step ((go_at_call 37; exact k1 _)))
      refine wpQuiet_nil ?_
      rintro _ ⟨u, rfl⟩
      have HU := Hid.mk (More.trans HR.out u.more)
      clear l1 k1
      go_wp2
      exact ⟨⟨k + 1, by omega, by go_num, HU⟩, by simp [intOf]; omega⟩
    · obtain rfl : K = k := by omega
      have hmr := More.trans H6.out.2.2.2.1 HR.out
      have hq := H6.out.1.more HR.out
      have hr := H6.out.2.2.1.more HR.out
      have hlen := el_len _ q g K wr hq
      have hsi := el_size _ q g K wr hq
      rw [size_congr H6.out.2.1, HS.out] at hsi
      have H7 := Hid.mk (And.intro hr (And.intro hmr (More.tab H6.out.2.2.2.2 HR.out)))
      clear hmr hq hr
      go_wp2_with (first
        | (go_at_call 38; refine hlen.mono ?_; rintro e w' ⟨rfl, hw⟩; subst w'; clear hlen)
        | (go_at_call 39; refine hsi.mono ?_; rintro e w8 ⟨rfl, hm8⟩; have H8 := Hid.mk (And.intro (H7.out.1.more hm8) (And.intro (More.trans H7.out.2.1 hm8) (More.tab H7.out.2.2 hm8))); have hze8 := hze w8 H8.out.2.1; have hle8 := rd_left _ _ _ _ _ w8 H8.out.1; rw [hdl.out] at hle8; clear hm8 hsi)
        | (go_at_call 40; refine hze8.mono ?_; rintro e w' ⟨rfl, hw⟩; subst w'; clear hze8)
        | (go_at_call 15; refine hle8.mono ?_; rintro e w9 ⟨rfl, m9, hw9⟩; have hm9 : More w8 w9 := (by rw [hw9]; exact More.drewN w8 m9); have H9 := Hid.mk (And.intro (More.trans H8.out.2.1 hm9) (More.tab H8.out.2.2 hm9)); have her := rd_err _ _ _ _ _ w9 (H8.out.1.more hm9); clear hw9 hm9 hle8)
        | (go_at_call 16; refine her.mono ?_; rintro e w' ⟨rfl, hw⟩; subst w'; clear her)
        | (go_at_call 7; refine (sb_live w9 H9.out.2).mono ?_; rintro e wz ⟨rfl, hmz⟩; have HZ := Hid.mk (More.trans H9.out.1 hmz); clear hmz))
      go_ret
      exact ⟨rfl, HZ.out⟩

set_option maxRecDepth 1000000 in
theorem seqbinSeqs (v : Value) (K : Nat) (g : Nat → Int) (sl : List UInt8) (w : World) (h : ZRd w v K g) (hT : TabIn w) :
    Calls Tryd.prog 5 #[v, .string (bs sl)] w fun e w' => e = .returned (.bool true) ∧ More w w' := by
  have hsz : (bs sl).size = sl.length := bs_size sl
  have hlive := fun (w' : World) (hm : More w w') => sb_live w' (More.tab hT hm)
  by_cases hK : K ≤ 60
  · by_cases hs : sl.length ≤ 200
    · by_cases h0 : wrg g K = 0
      · obtain ⟨h1, h2⟩ := climbs_of h0
        exact sb_seqs_good v K _ sl w (h.congr h1) h2 hK hs hT
      · have hwr := ref_wrong v K g w h (by omega)
        obtain ⟨ao, cap, rfl⟩ := h.shape
        obtain ⟨G, hG⟩ : ∃ G, wrg g K = G := ⟨_, rfl⟩
        rw [hG] at hwr h0
        have hG1 : (G != 0) = true := by simpa using h0
        generalize sl.length = M at *
        clear h hT hG
        go_enter Tryd.func5, Tryd.ntmps5
        go_wp2_with (first
          | (go_at_call 32; refine hwr.mono ?_; rintro e w1 ⟨rfl, m1, hw1⟩; have hm1 : More w w1 := (by rw [hw1]; exact More.drewN w m1); have H1 := Hid.mk hm1; clear hw1 hm1 hwr)
          | (go_at_call 7; refine (hlive w1 H1.out).mono ?_; rintro e wz ⟨rfl, hmz⟩; have HZ := Hid.mk (More.trans H1.out hmz); clear hmz))
        go_ret
        exact ⟨rfl, HZ.out⟩
    · obtain ⟨ao, cap, rfl⟩ := h.shape
      have hl := hlive w (Below.refl _ _)
      generalize sl.length = M at *
      clear h hT hlive
      go_enter Tryd.func5, Tryd.ntmps5
      go_wp2_with (go_at_call 7; refine hl.mono ?_; rintro e wz ⟨rfl, hmz⟩; have HZ := Hid.mk hmz; clear hmz)
      go_ret
      exact ⟨rfl, HZ.out⟩
  · obtain ⟨ao, cap, rfl⟩ := h.shape
    have hl := hlive w (Below.refl _ _)
    clear h hT hlive hsz
    go_enter Tryd.func5, Tryd.ntmps5
    go_wp2_with (go_at_call 7; refine hl.mono ?_; rintro e wz ⟨rfl, hmz⟩; have HZ := Hid.mk hmz; clear hmz)
    go_ret
    exact ⟨rfl, HZ.out⟩

end Go.Proofs.YtbfolfacppbalaaDoor
