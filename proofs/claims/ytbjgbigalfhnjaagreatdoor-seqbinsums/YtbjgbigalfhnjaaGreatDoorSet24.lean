/-
  SeqbinSums walked.
  SeqbinSums walked.
  SeqbinSums walked.
-/
import Derived.Test.YtbjgbigalfhnjaaGreatDoorSbLawUa
namespace Go.Proofs.YtbjgbigalfhnjaaGreatDoor
open Go.RowKit


set_option maxHeartbeats 12800000 in
set_option maxRecDepth 1000000 in
theorem sbu_bad (v : Value) (K : Nat) (f : Nat → Nat) (sl : List UInt8) (w : World) (h : ZRd w v K (fun j => (f j : Int))) (hF : sm f K ≤ 1099511627776) (hK : K ≤ 40) (hsl : sl.length ≤ 200) (hT : TabIn w) (n u t1 er1 t2 er2 t3 er : Nat) (vv : List UInt8) (hR : Reads sl 0 n u vv t1 er1 t2 er2 t3 er) (hfew : er = 0 → n ≤ 4000 ∧ gBits n u ≤ 1000000) (hbad : ¬ (er = 0 ∧ Good n u (ofB vv))) :
    Calls Tryz.prog 3 #[v, .string (bs sl)] w fun e w' => e = .returned (.bool true) ∧ More w w' := by

  have hb0 := tab_pos hT
  have hsz : (bs sl).size = sl.length := bs_size sl
  have hsu := ref_sums v K f w h (by omega) hF
  have hnew := fun (w' : World) (hm : More w w') => px_new v K f w' (h.more hm) (by omega) hF
  have hcl := fun (w' : World) (hm : More w w') => h.more hm
  obtain ⟨ao, cap, rfl⟩ := h.shape
  have hLb := seqB_few hF hK
  have hput := fun base wb base' q (w' : World) (h1 : WrAt w' base wb []) h2 (h3 : PxAt w' base' q f K) h4 => put_sums base wb base' q f K [] w' h1 h2 h3 h4 (by omega) (by decide)
  have hrs := fun vv (w' : World) (h : ZRd w' vv (K + 1) (fun j => (sm f j : Int))) => rsb_seq vv (K + 1) (sm f) w' h (sm_climbs hF) (by omega)
  obtain ⟨L, hL⟩ : ∃ L, seqB (sm f) (K + 1) = L := ⟨_, rfl⟩
  have hback := fun base b (w' : World) (h1 : RdAt w' base b L 0 0) h2 h3 => sums_back f K base b L w' hL.symm hF (by omega) h1 h2 h3
  rw [hL] at hLb
  simp only [hL, List.nil_append] at hput
  simp only [hL] at hrs
  have hop1 := fun w => rd_open L (by omega) w
  have hopen := fun w => rd_open sl (by omega) w
  have hbytes : ∀ base b (w1 : World), WrAt w1 base b [0, 0, 0, 1, 0, 1] → Calls Tryz.prog 10 #[.pointer (some ⟨b, 0, none⟩)] w1 fun e w' => e = .returned (.string { data := #[0, 0, 0, 1, 0, 1] }) ∧ w' = w1 := fun base b w1 h => wr_bytes base b [0, 0, 0, 1, 0, 1] w1 h
  obtain ⟨SK, hSK⟩ : ∃ SK, sm f K = SK := ⟨_, rfl⟩
  obtain ⟨M1, hM1⟩ : ∃ M1, K + 1 = M1 := ⟨_, rfl⟩
  have hKM : K < M1 := by omega
  rw [hM1] at hsu
  simp only [hM1] at hrs
  have HH := Hid.mk (And.intro hT (And.intro hcl (And.intro hSK hM1)))

  have hdoc := fun (w' : World) => udoc_bad _ _ 0 n u t1 er1 t2 er2 t3 er vv sl _ (ux_new w' sl (by omega)) hfew hR hbad
  have hget := fun base b (w' : World) (h1 : RdAt w' base b sl 0 0) h2 h3 => sums_bad base b 0 0 n u t1 er1 t2 er2 t3 er vv sl w' h1 h2 h3 hfew (by rw [List.drop_zero]; exact hR) hbad
  obtain ⟨G, hG⟩ : ∃ G, uErr er = G := ⟨_, rfl⟩
  have hG0 : G ≠ 0 := by rw [← hG]; exact uErr_ne er
  simp only [hG, Nat.zero_add] at hget hdoc
  have hGi : ¬ (G : Int) = 0 := by omega
  have HGe := Hid.mk (show ((G : Int) == 0) = false by simp; omega)
  obtain ⟨MS, hMS⟩ : ∃ MS, sl.length = MS := ⟨_, rfl⟩
  rw [hMS] at hsz hsl
  clear hR hbad hfew hG hMS
  clear h hT hcl hL hF hSK hM1 hLb
  go_enter Tryz.func3, Tryz.ntmps3
  go_wp2_with (first
    | (go_at_call 5; refine hsu.mono ?_; rintro e w1 ⟨ao1, c1, rfl, ho1, hm1⟩; obtain ⟨g1, c1', hsh, _, _⟩ := ho1.form (by omega); obtain ⟨rfl, rfl⟩ : ao1 = some ⟨g1, 0, none⟩ ∧ c1 = c1' := (by simpa using hsh); have H1 := Hid.mk (And.intro ho1 (And.intro hm1 (More.tab HH.out.1 hm1))); clear ho1 hm1 hsu hsh)
    | (go_at_call 6; refine (hnew w1 H1.out.2.1).mono ?_; rintro e w2 ⟨q, rfl, hq2, hm2⟩; have H2 := Hid.mk (And.intro hq2 (And.intro (More.trans H1.out.2.1 hm2) (And.intro (More.tab H1.out.2.2 hm2) (More.own H1.out.1 hm2)))); clear hq2 hm2 hnew)
    | (go_at_call 7; refine (hput w2.heap.size w2.heap.size _ q _ (WrAt.new w2) (tab_pos H2.out.2.2.1) (H2.out.1.more (More.alloc _ _)) (More.tab H2.out.2.2.1 (More.alloc _ _))).mono ?_; rintro e w3 ⟨rfl, hw3, hk3⟩; have hm3 : More w2 w3 := Below.trans (More.alloc w2 _) (hk3.below); have H3 := Hid.mk (And.intro hw3 (And.intro hm3 (More.tab H2.out.2.2.1 hm3))); have hby3 := wr_bytes _ _ _ w3 hw3; clear hw3 hk3 hm3 hput)
    | (go_at_call 10; refine hby3.mono ?_; rintro e w' ⟨rfl, hw⟩; subst w'; clear hby3)
    | (go_at_call 9; refine (hop1 w3).mono ?_; rintro e w4 ⟨rfl, hr4, hm4⟩; have H4 := Hid.mk (And.intro hr4 (And.intro hm4 (More.tab H3.out.2.2 hm4))); clear hr4 hm4 hop1)
    | (go_at_call 8; refine (hback w3.heap.size w3.heap.size w4 H4.out.1 H4.out.2.2 (tab_pos H3.out.2.2)).mono ?_; rintro e w5 ⟨q5, g5, rfl, hq5, hg5, hk5⟩; have hm5 : More w2 w5 := Below.trans H3.out.2.1 ((Below.trans H4.out.2.1 hk5.below).mono H3.out.2.1.size); have hm35 : More w3 w5 := Below.trans H4.out.2.1 hk5.below; have H5 := Hid.mk (And.intro hq5 (And.intro hg5 (And.intro (H3.out.1.more hm35) (And.intro (More.trans H2.out.2.1 hm5) (And.intro (More.tab H2.out.2.2.1 hm5) (More.own H2.out.2.2.2 hm5)))))); clear hq5 hg5 hk5 hm5 hm35 hback))
  have hsm5 : sm g5 K = SK := by rw [sm_congr K (fun j hj => H5.out.2.1 j hj)]; exact HH.out.2.2.1
  have kB : ∀ u : Lat w5, Calls Tryz.prog 10 #[.pointer (some ⟨w2.heap.size, 0, none⟩)] u.val fun e w' => e = .returned (.string (bs L)) ∧ ∃ u' : Lat w5, w' = u'.val := fun u => (wr_bytes _ _ _ u.val (H5.out.2.2.1.more u.more)).mono fun e w' ⟨he, hw⟩ => ⟨he, u, hw⟩
  have kS : ∀ u : Lat w5, Calls Tryz.prog 11 #[.slice (some ⟨g1, 0, none⟩) M1 c1] u.val fun e w' => e = .returned (.string (bs L)) ∧ ∃ u' : Lat w5, w' = u'.val := fun u => (hrs _ u.val ((zrd_own H5.out.2.2.2.2.2).more u.more)).mono fun e w' ⟨he, hm⟩ => ⟨he, u.grown hm⟩
  have kL : ∀ u : Lat w5, Calls Tryz.prog 12 #[.pointer (some ⟨q5, 0, none⟩)] u.val fun e w' => e = .returned (.int .i64 K) ∧ ∃ u' : Lat w5, w' = u'.val := fun u => (px_len _ q5 g5 K u.val (H5.out.1.more u.more)).mono fun e w' ⟨he, hw⟩ => ⟨he, u, hw⟩
  have kT : ∀ u : Lat w5, Calls Tryz.prog 13 #[.pointer (some ⟨q5, 0, none⟩)] u.val fun e w' => e = .returned (.int .i64 (SK : Nat)) ∧ ∃ u' : Lat w5, w' = u'.val := fun u => (px_total _ q5 g5 K u.val (H5.out.1.more u.more)).mono fun e w' ⟨he, hm⟩ => ⟨by rw [hsm5] at he; exact he, u.grown hm⟩
  have l1 : ∀ u : Lat w5, u.val.cell? ⟨g1, K, none⟩ = some (.int .i64 (SK : Nat)) := fun u => by
    have := (More.own H5.out.2.2.2.2.2 u.more).cellAt K (by omega)
    rw [ints_get _ _ _ hKM, HH.out.2.2.1] at this
    exact this
  have hne : Nonempty (Lat w5) := Lat.any w5
  refine wp_region_lat (by kernel_rfl) (by kernel_rfl) ?_
  repeat (quiet_step (first | (go_at_call 10; exact kB _) | (go_at_call 11; exact kS _) | (go_at_call 12; exact kL _) | (go_at_call 13; exact kT _)))
  refine wpQuiet_nil ?_
  rintro _ ⟨u, rfl⟩
  have hmu := u.more
  obtain ⟨w6, hw6⟩ : ∃ w6, u.val = w6 := ⟨_, rfl⟩
  rw [hw6] at hmu ⊢
  have H6 := Hid.mk (And.intro (H5.out.1.more hmu) (And.intro H5.out.2.1 (And.intro (More.trans H5.out.2.2.2.1 hmu) (More.tab H5.out.2.2.2.2.1 hmu))))
  clear hmu hw6 kB kS kL kT l1 hne hsm5 hrs
  go_wp2
  go_loopw [11] (fun i wr => ∃ k : Nat, k ≤ K ∧ i = .int .i64 k ∧ Hid (More w6 wr)) (fun i _ => K - (intOf i).toNat)
  case atStart => exact ⟨0, Nat.zero_le _, rfl, Hid.mk (Below.refl _ _)⟩
  case round =>
    obtain ⟨k, hk, rfl, HR⟩ := hrel
    by_cases hkK : k < K
    · have hmr := More.trans H6.out.2.2.1 HR.out
      obtain ⟨g0, o0, rfl, hc⟩ := (HH.out.2.1 wr hmr).cell (w' := wr) k hkK
      have hck := hc (Below.refl _ _)
      have hat := fun (w' : World) (hm : More wr w') => px_at _ q5 g5 K (k : Int) w' (H6.out.1.more (More.trans HR.out hm))
      rw [atZ_in g5 K k hkK, H6.out.2.1 k hkK] at hat
      obtain ⟨X, hX⟩ : ∃ X, f k = X := ⟨_, rfl⟩
      rw [hX] at hat hck
      have l1 : ∀ u : Lat wr, u.val.cell? ⟨g0, o0 + k, none⟩ = some (.int .i64 (X : Nat)) := fun u => (u.more.cell (p := ⟨g0, o0 + k, none⟩) (World.block_lt_of_cell? wr _ hck)).trans hck
      have k1 : ∀ u : Lat wr, Calls Tryz.prog 14 #[.pointer (some ⟨q5, 0, none⟩), .int .i64 k] u.val fun e w' => e = .returned (.int .i64 (X : Nat)) ∧ ∃ u' : Lat wr, w' = u'.val := fun u => (hat u.val u.more).mono fun e w' ⟨he, hm⟩ => ⟨he, u.grown hm⟩
      have hne : Nonempty (Lat wr) := Lat.any wr
      clear hc hck hX hmr hat
      go_wp2
      refine wp_region_lat (by kernel_rfl) (by kernel_rfl) ?_
      repeat (quiet_step ((go_at_call 14; exact k1 _)))
      refine wpQuiet_nil ?_
      rintro _ ⟨u, rfl⟩
      have HU := Hid.mk (More.trans HR.out u.more)
      clear l1 k1
      go_wp2
      exact ⟨⟨k + 1, by omega, by go_num, HU⟩, by simp [intOf]; omega⟩
    · obtain rfl : K = k := by omega
      have H7 := Hid.mk (And.intro (More.trans H6.out.2.2.1 HR.out) (More.tab H6.out.2.2.2 HR.out))
      clear H6 HR
      go_wp2_with (first
        | (go_at_call 15; refine (hdoc wr).mono ?_; rintro e w8 ⟨rfl, hx8, hk8⟩; have hm8 : More wr w8 := Below.trans (More.alloc wr _) hk8.below; obtain ⟨c0, c1, z0, z1⟩ := wcells2 hx8.mem; have H8 := Hid.mk (And.intro hx8 (And.intro (More.trans H7.out.1 hm8) (More.tab H7.out.2 hm8))); clear hx8 hk8 hm8 hdoc)
        | (go_at_call 9; refine (hopen w8).mono ?_; rintro e w9 ⟨rfl, hr9, hm9⟩; have hgt := hget w8.heap.size w8.heap.size w9 hr9 (More.tab H8.out.2.2 hm9) (tab_pos H8.out.2.2); have H9 := Hid.mk hm9; clear hr9 hm9 hopen hget)
        | (go_at_call 8; refine hgt.mono ?_; rintro e w10 ⟨rfl, hr10, hk10⟩; have hm10 : More w8 w10 := Below.trans H9.out hk10.below; have hx10 := H8.out.1.more hm10; have H10 := Hid.mk (And.intro (More.trans H8.out.2.1 hm10) (More.tab H8.out.2.2 hm10)); clear hk10 hm10 hgt c0 c1 z0 z1))
      have kE : ∀ u : Lat w10, Calls Tryz.prog 16 #[.pointer (some ⟨w8.heap.size, 0, none⟩)] u.val fun e w' => e = .returned (.int .i64 G) ∧ ∃ u' : Lat w10, w' = u'.val := fun u => (rd_err _ _ _ _ _ u.val (hr10.more u.more)).mono fun e w' ⟨he, hw⟩ => ⟨he, u, hw⟩
      have lx : ∀ u : Lat w10, u.val.cell? ⟨wr.heap.size, 1, none⟩ = some (.int .i64 G) := fun u => (wcells2 (hx10.more u.more).mem).2.1
      have hne : Nonempty (Lat w10) := Lat.any w10
      refine wp_region_lat (by kernel_rfl) (by kernel_rfl) ?_
      quiet_step (first | (go_at_call 16; exact kE _))
      quiet_step (first | (go_at_call 16; exact kE _))
      quiet_step (first | (go_at_call 16; exact kE _))
      quiet_step (first | (go_at_call 16; exact kE _))
      quiet_step (first | (go_at_call 16; exact kE _))
      quiet_step (first | (go_at_call 16; exact kE _))
      quiet_step (first | (go_at_call 16; exact kE _))
      quiet_step (first | (go_at_call 16; exact kE _))
      quiet_step (first | (go_at_call 16; exact kE _))
      quiet_step (first | (go_at_call 16; exact kE _))
      quiet_step (first | (go_at_call 16; exact kE _))
      quiet_step (first | (go_at_call 16; exact kE _))
      quiet_step (first | (go_at_call 16; exact kE _))
      quiet_step (first | (go_at_call 16; exact kE _))
      quiet_step (first | (go_at_call 16; exact kE _))
      quiet_step (first | (go_at_call 16; exact kE _))
      quiet_step (first | (go_at_call 16; exact kE _))
      quiet_step (first | (go_at_call 16; exact kE _))
      quiet_step (first | (go_at_call 16; exact kE _))
      quiet_step (first | (go_at_call 16; exact kE _))
      quiet_step (first | (go_at_call 16; exact kE _))
      quiet_step (first | (go_at_call 16; exact kE _))
      quiet_step (first | (go_at_call 16; exact kE _))
      quiet_step (first | (go_at_call 16; exact kE _))
      quiet_step (first | (go_at_call 16; exact kE _))
      obtain ⟨bb, hbb⟩ : ∃ bb, ((G : Int) == 0) = bb := ⟨_, rfl⟩
      rw [hbb]
      have hb := HGe.out
      rw [hbb] at hb
      subst hb
      clear hbb
      with_reducible refine wpQuiet_past 17 ?hw1 ?hp1 ?hr1
      case hw1 => kernel_rfl
      case hp1 => kernel_rfl
      simp only [List.drop_succ_cons, List.drop_zero]
      with_reducible refine wpQuiet_step ?_
      intro K hK
      go_simp
      with_reducible refine hK _ ?_
      clear hK K
      with_reducible refine wpQuiet_step ?_
      intro K hK
      go_simp
      with_reducible refine hK _ ?_
      clear hK K
      refine wpQuiet_nil ?_
      rintro _ ⟨u, rfl⟩
      have hmu := u.more
      obtain ⟨w11, hw11⟩ : ∃ w11, u.val = w11 := ⟨_, rfl⟩
      rw [hw11] at hmu ⊢
      have H11 := Hid.mk (And.intro (More.trans H10.out.1 hmu) (More.tab H10.out.2 hmu))
      clear hmu hw11 hne
      clear kE lx hr10 hx10
      go_wp2_with (first
        | (go_at_call 17; refine (nput_row w11.heap.size w11.heap.size [] _ (WrAt.new w11) (by decide)).mono ?_; rintro e w12 ⟨rfl, hw12, hk12⟩; have H12 := Hid.mk (And.intro hw12 hk12); have hpp := nput_pack w11.heap.size w11.heap.size [] w12 hw12 (by decide); clear hw12 hk12)
        | (go_at_call 18; refine hpp.mono ?_; rintro e w13 ⟨rfl, hw13, hk13⟩; have H13 := Hid.mk (And.intro hw13 (H12.out.2.trans hk13)); have hps := nput_seq w11.heap.size w11.heap.size _ w13 hw13 (by decide); clear hw13 hk13 hpp)
        | (go_at_call 19; refine hps.mono ?_; rintro e w14 ⟨rfl, hw14, hk14⟩; have hk := H13.out.2.trans hk14; have hm14 : More w11 w14 := Below.trans (More.alloc w11 _) hk.below; have H14 := Hid.mk (And.intro hw14 (And.intro hk hm14)); have hpu := nput_sums w11.heap.size w11.heap.size _ w14 hw14 (tab_pos H11.out.2) (More.tab H11.out.2 hm14) (by decide); clear hw14 hk14 hk hm14 hps)
        | (go_at_call 7; refine hpu.mono ?_; rintro e w15 ⟨rfl, hw15, hk15⟩; have hm15 : More w11 w15 := Below.trans (More.alloc w11 _) (H14.out.2.1.trans hk15).below; have hby := hbytes _ _ w15 hw15; have H15 := Hid.mk (And.intro (More.trans H11.out.1 hm15) (More.tab H11.out.2 hm15)); clear hw15 hk15 hm15 hpu)
        | (go_at_call 10; refine hby.mono ?_; rintro e w' ⟨rfl, hw⟩; subst w'; clear hby)
        | (go_at_call 4; refine (sb_live w15 H15.out.2).mono ?_; rintro e wz ⟨rfl, hmz⟩; have HZ := Hid.mk (More.trans H15.out.1 hmz); clear hmz))
      go_ret
      exact ⟨rfl, HZ.out⟩


end Go.Proofs.YtbjgbigalfhnjaaGreatDoor

namespace Go.Proofs.YtbjgbigalfhnjaaGreatDoor
open Go.RowKit


set_option maxHeartbeats 12800000 in
set_option maxRecDepth 1000000 in
theorem sbu_form (v : Value) (K : Nat) (f : Nat → Nat) (sl : List UInt8) (w : World) (h : ZRd w v K (fun j => (f j : Int))) (hF : sm f K ≤ 1099511627776) (hK : K ≤ 40) (hsl : sl.length ≤ 200) (hT : TabIn w) (n u t1 er1 t2 er2 t3 : Nat) (vv : List UInt8) (hR : Reads sl 0 n u vv t1 er1 t2 er2 t3 0) (hfew : n ≤ 2400 ∧ gBits n u ≤ 1000000) (hgd : Good n u (ofB vv)) (hno : n = 0 ∨ gF n u (ofB vv) 0 ≠ 0) :
    Calls Tryz.prog 3 #[v, .string (bs sl)] w fun e w' => e = .returned (.bool true) ∧ More w w' := by

  have hb0 := tab_pos hT
  have hsz : (bs sl).size = sl.length := bs_size sl
  have hsu := ref_sums v K f w h (by omega) hF
  have hnew := fun (w' : World) (hm : More w w') => px_new v K f w' (h.more hm) (by omega) hF
  have hcl := fun (w' : World) (hm : More w w') => h.more hm
  obtain ⟨ao, cap, rfl⟩ := h.shape
  have hLb := seqB_few hF hK
  have hput := fun base wb base' q (w' : World) (h1 : WrAt w' base wb []) h2 (h3 : PxAt w' base' q f K) h4 => put_sums base wb base' q f K [] w' h1 h2 h3 h4 (by omega) (by decide)
  have hrs := fun vv (w' : World) (h : ZRd w' vv (K + 1) (fun j => (sm f j : Int))) => rsb_seq vv (K + 1) (sm f) w' h (sm_climbs hF) (by omega)
  obtain ⟨L, hL⟩ : ∃ L, seqB (sm f) (K + 1) = L := ⟨_, rfl⟩
  have hback := fun base b (w' : World) (h1 : RdAt w' base b L 0 0) h2 h3 => sums_back f K base b L w' hL.symm hF (by omega) h1 h2 h3
  rw [hL] at hLb
  simp only [hL, List.nil_append] at hput
  simp only [hL] at hrs
  have hop1 := fun w => rd_open L (by omega) w
  have hopen := fun w => rd_open sl (by omega) w
  have hbytes : ∀ base b (w1 : World), WrAt w1 base b [0, 0, 0, 1, 0, 1] → Calls Tryz.prog 10 #[.pointer (some ⟨b, 0, none⟩)] w1 fun e w' => e = .returned (.string { data := #[0, 0, 0, 1, 0, 1] }) ∧ w' = w1 := fun base b w1 h => wr_bytes base b [0, 0, 0, 1, 0, 1] w1 h
  obtain ⟨SK, hSK⟩ : ∃ SK, sm f K = SK := ⟨_, rfl⟩
  obtain ⟨M1, hM1⟩ : ∃ M1, K + 1 = M1 := ⟨_, rfl⟩
  have hKM : K < M1 := by omega
  rw [hM1] at hsu
  simp only [hM1] at hrs
  have HH := Hid.mk (And.intro hT (And.intro hcl (And.intro hSK hM1)))

  have hdoc := fun (w' : World) => udoc_good _ _ 0 n u t1 er1 t2 er2 t3 vv sl _ (ux_new w' sl (by omega)) ⟨by omega, hfew.2⟩ hR hgd
  have hget := fun base b (w' : World) (h1 : RdAt w' base b sl 0 0) h2 h3 => sums_form base b 0 0 n u t1 er1 t2 er2 t3 vv sl w' h1 h2 h3 ⟨by omega, hfew.2⟩ (by rw [List.drop_zero]; exact hR) hgd hno
  have hfX := hgd.climbs
  obtain ⟨fx, hfx⟩ : ∃ fx, gF n u (ofB vv) = fx := ⟨_, rfl⟩
  rw [hfx] at hno hfX
  simp only [hfx, Nat.zero_add] at hget hdoc
  have hn24 := hfew.1
  obtain ⟨MS, hMS⟩ : ∃ MS, sl.length = MS := ⟨_, rfl⟩
  rw [hMS] at hsz hsl
  clear hR hfew hgd hfx hMS
  clear h hT hcl hL hF hSK hM1 hLb
  go_enter Tryz.func3, Tryz.ntmps3
  go_wp2_with (first
    | (go_at_call 5; refine hsu.mono ?_; rintro e w1 ⟨ao1, c1, rfl, ho1, hm1⟩; obtain ⟨g1, c1', hsh, _, _⟩ := ho1.form (by omega); obtain ⟨rfl, rfl⟩ : ao1 = some ⟨g1, 0, none⟩ ∧ c1 = c1' := (by simpa using hsh); have H1 := Hid.mk (And.intro ho1 (And.intro hm1 (More.tab HH.out.1 hm1))); clear ho1 hm1 hsu hsh)
    | (go_at_call 6; refine (hnew w1 H1.out.2.1).mono ?_; rintro e w2 ⟨q, rfl, hq2, hm2⟩; have H2 := Hid.mk (And.intro hq2 (And.intro (More.trans H1.out.2.1 hm2) (And.intro (More.tab H1.out.2.2 hm2) (More.own H1.out.1 hm2)))); clear hq2 hm2 hnew)
    | (go_at_call 7; refine (hput w2.heap.size w2.heap.size _ q _ (WrAt.new w2) (tab_pos H2.out.2.2.1) (H2.out.1.more (More.alloc _ _)) (More.tab H2.out.2.2.1 (More.alloc _ _))).mono ?_; rintro e w3 ⟨rfl, hw3, hk3⟩; have hm3 : More w2 w3 := Below.trans (More.alloc w2 _) (hk3.below); have H3 := Hid.mk (And.intro hw3 (And.intro hm3 (More.tab H2.out.2.2.1 hm3))); have hby3 := wr_bytes _ _ _ w3 hw3; clear hw3 hk3 hm3 hput)
    | (go_at_call 10; refine hby3.mono ?_; rintro e w' ⟨rfl, hw⟩; subst w'; clear hby3)
    | (go_at_call 9; refine (hop1 w3).mono ?_; rintro e w4 ⟨rfl, hr4, hm4⟩; have H4 := Hid.mk (And.intro hr4 (And.intro hm4 (More.tab H3.out.2.2 hm4))); clear hr4 hm4 hop1)
    | (go_at_call 8; refine (hback w3.heap.size w3.heap.size w4 H4.out.1 H4.out.2.2 (tab_pos H3.out.2.2)).mono ?_; rintro e w5 ⟨q5, g5, rfl, hq5, hg5, hk5⟩; have hm5 : More w2 w5 := Below.trans H3.out.2.1 ((Below.trans H4.out.2.1 hk5.below).mono H3.out.2.1.size); have hm35 : More w3 w5 := Below.trans H4.out.2.1 hk5.below; have H5 := Hid.mk (And.intro hq5 (And.intro hg5 (And.intro (H3.out.1.more hm35) (And.intro (More.trans H2.out.2.1 hm5) (And.intro (More.tab H2.out.2.2.1 hm5) (More.own H2.out.2.2.2 hm5)))))); clear hq5 hg5 hk5 hm5 hm35 hback))
  have hsm5 : sm g5 K = SK := by rw [sm_congr K (fun j hj => H5.out.2.1 j hj)]; exact HH.out.2.2.1
  have kB : ∀ u : Lat w5, Calls Tryz.prog 10 #[.pointer (some ⟨w2.heap.size, 0, none⟩)] u.val fun e w' => e = .returned (.string (bs L)) ∧ ∃ u' : Lat w5, w' = u'.val := fun u => (wr_bytes _ _ _ u.val (H5.out.2.2.1.more u.more)).mono fun e w' ⟨he, hw⟩ => ⟨he, u, hw⟩
  have kS : ∀ u : Lat w5, Calls Tryz.prog 11 #[.slice (some ⟨g1, 0, none⟩) M1 c1] u.val fun e w' => e = .returned (.string (bs L)) ∧ ∃ u' : Lat w5, w' = u'.val := fun u => (hrs _ u.val ((zrd_own H5.out.2.2.2.2.2).more u.more)).mono fun e w' ⟨he, hm⟩ => ⟨he, u.grown hm⟩
  have kL : ∀ u : Lat w5, Calls Tryz.prog 12 #[.pointer (some ⟨q5, 0, none⟩)] u.val fun e w' => e = .returned (.int .i64 K) ∧ ∃ u' : Lat w5, w' = u'.val := fun u => (px_len _ q5 g5 K u.val (H5.out.1.more u.more)).mono fun e w' ⟨he, hw⟩ => ⟨he, u, hw⟩
  have kT : ∀ u : Lat w5, Calls Tryz.prog 13 #[.pointer (some ⟨q5, 0, none⟩)] u.val fun e w' => e = .returned (.int .i64 (SK : Nat)) ∧ ∃ u' : Lat w5, w' = u'.val := fun u => (px_total _ q5 g5 K u.val (H5.out.1.more u.more)).mono fun e w' ⟨he, hm⟩ => ⟨by rw [hsm5] at he; exact he, u.grown hm⟩
  have l1 : ∀ u : Lat w5, u.val.cell? ⟨g1, K, none⟩ = some (.int .i64 (SK : Nat)) := fun u => by
    have := (More.own H5.out.2.2.2.2.2 u.more).cellAt K (by omega)
    rw [ints_get _ _ _ hKM, HH.out.2.2.1] at this
    exact this
  have hne : Nonempty (Lat w5) := Lat.any w5
  refine wp_region_lat (by kernel_rfl) (by kernel_rfl) ?_
  repeat (quiet_step (first | (go_at_call 10; exact kB _) | (go_at_call 11; exact kS _) | (go_at_call 12; exact kL _) | (go_at_call 13; exact kT _)))
  refine wpQuiet_nil ?_
  rintro _ ⟨u, rfl⟩
  have hmu := u.more
  obtain ⟨w6, hw6⟩ : ∃ w6, u.val = w6 := ⟨_, rfl⟩
  rw [hw6] at hmu ⊢
  have H6 := Hid.mk (And.intro (H5.out.1.more hmu) (And.intro H5.out.2.1 (And.intro (More.trans H5.out.2.2.2.1 hmu) (More.tab H5.out.2.2.2.2.1 hmu))))
  clear hmu hw6 kB kS kL kT l1 hne hsm5 hrs
  go_wp2
  go_loopw [11] (fun i wr => ∃ k : Nat, k ≤ K ∧ i = .int .i64 k ∧ Hid (More w6 wr)) (fun i _ => K - (intOf i).toNat)
  case atStart => exact ⟨0, Nat.zero_le _, rfl, Hid.mk (Below.refl _ _)⟩
  case round =>
    obtain ⟨k, hk, rfl, HR⟩ := hrel
    by_cases hkK : k < K
    · have hmr := More.trans H6.out.2.2.1 HR.out
      obtain ⟨g0, o0, rfl, hc⟩ := (HH.out.2.1 wr hmr).cell (w' := wr) k hkK
      have hck := hc (Below.refl _ _)
      have hat := fun (w' : World) (hm : More wr w') => px_at _ q5 g5 K (k : Int) w' (H6.out.1.more (More.trans HR.out hm))
      rw [atZ_in g5 K k hkK, H6.out.2.1 k hkK] at hat
      obtain ⟨X, hX⟩ : ∃ X, f k = X := ⟨_, rfl⟩
      rw [hX] at hat hck
      have l1 : ∀ u : Lat wr, u.val.cell? ⟨g0, o0 + k, none⟩ = some (.int .i64 (X : Nat)) := fun u => (u.more.cell (p := ⟨g0, o0 + k, none⟩) (World.block_lt_of_cell? wr _ hck)).trans hck
      have k1 : ∀ u : Lat wr, Calls Tryz.prog 14 #[.pointer (some ⟨q5, 0, none⟩), .int .i64 k] u.val fun e w' => e = .returned (.int .i64 (X : Nat)) ∧ ∃ u' : Lat wr, w' = u'.val := fun u => (hat u.val u.more).mono fun e w' ⟨he, hm⟩ => ⟨he, u.grown hm⟩
      have hne : Nonempty (Lat wr) := Lat.any wr
      clear hc hck hX hmr hat
      go_wp2
      refine wp_region_lat (by kernel_rfl) (by kernel_rfl) ?_
      repeat (quiet_step ((go_at_call 14; exact k1 _)))
      refine wpQuiet_nil ?_
      rintro _ ⟨u, rfl⟩
      have HU := Hid.mk (More.trans HR.out u.more)
      clear l1 k1
      go_wp2
      exact ⟨⟨k + 1, by omega, by go_num, HU⟩, by simp [intOf]; omega⟩
    · obtain rfl : K = k := by omega
      have H7 := Hid.mk (And.intro (More.trans H6.out.2.2.1 HR.out) (More.tab H6.out.2.2.2 HR.out))
      clear H6 HR
      by_cases hn0 : n = 0

      · have hq : ((n : Int) == 0) = true := by rw [hn0]; rfl
        go_wp2_with (go_at_call 15; refine (hdoc wr).mono ?_; rintro e w8 ⟨ws, rfl, hs8, hx8, hk8⟩; obtain ⟨aw, cw, rfl⟩ := shape_of hs8; have hm8 : More wr w8 := Below.trans (More.alloc wr _) hk8.below; obtain ⟨c0, c1, z0, z1⟩ := wcells2 hx8.mem; have hxe := hx8.errs (E' := 3); have hms : More wr (w8.setCell ⟨wr.heap.size, 1, none⟩ (.int .i64 3)) := Below.trans hm8 (hxe.2.below.mono (Nat.le_refl _)); have hxn := hxe.1; obtain ⟨wS, hwS⟩ : ∃ wS, w8.setCell ⟨wr.heap.size, 1, none⟩ (.int .i64 3) = wS := ⟨_, rfl⟩; rw [hwS] at hms; have hxn' : XAt wS wr.heap.size wr.heap.size _ 3 := (hwS ▸ hxn); have H8 := Hid.mk (And.intro hxn' (And.intro (More.trans H7.out.1 hms) (More.tab H7.out.2 hms))); clear hx8 hk8 hm8 hdoc hs8 hxe hms hxn hxn')
        go_wp2_with (first
          | (go_at_call 9; refine (hopen wS).mono ?_; rintro e w9 ⟨rfl, hr9, hm9⟩; have hgt := hget wS.heap.size wS.heap.size w9 hr9 (More.tab H8.out.2.2 hm9) (tab_pos H8.out.2.2); have H9 := Hid.mk hm9; clear hr9 hm9 hopen hget)
          | (go_at_call 8; refine hgt.mono ?_; rintro e w10 ⟨rfl, hr10, hk10⟩; have hm10 : More wS w10 := Below.trans H9.out hk10.below; have hx10 := H8.out.1.more hm10; have H10 := Hid.mk (And.intro (More.trans H8.out.2.1 hm10) (More.tab H8.out.2.2 hm10)); clear hk10 hm10 hgt c0 c1 z0 z1))
        have kE : ∀ u : Lat w10, Calls Tryz.prog 16 #[.pointer (some ⟨wS.heap.size, 0, none⟩)] u.val fun e w' => e = .returned (.int .i64 3) ∧ ∃ u' : Lat w10, w' = u'.val := fun u => (rd_err _ _ _ _ _ u.val (hr10.more u.more)).mono fun e w' ⟨he, hw⟩ => ⟨he, u, hw⟩
        have lx : ∀ u : Lat w10, u.val.cell? ⟨wr.heap.size, 1, none⟩ = some (.int .i64 3) := fun u => (wcells2 (hx10.more u.more).mem).2.1
        have hne : Nonempty (Lat w10) := Lat.any w10
        refine wp_region_lat (by kernel_rfl) (by kernel_rfl) ?_
        quiet_step (first | (go_at_call 16; exact kE _))
        quiet_step (first | (go_at_call 16; exact kE _))
        quiet_step (first | (go_at_call 16; exact kE _))
        quiet_step (first | (go_at_call 16; exact kE _))
        quiet_step (first | (go_at_call 16; exact kE _))
        quiet_step (first | (go_at_call 16; exact kE _))
        quiet_step (first | (go_at_call 16; exact kE _))
        quiet_step (first | (go_at_call 16; exact kE _))
        quiet_step (first | (go_at_call 16; exact kE _))
        quiet_step (first | (go_at_call 16; exact kE _))
        quiet_step (first | (go_at_call 16; exact kE _))
        quiet_step (first | (go_at_call 16; exact kE _))
        quiet_step (first | (go_at_call 16; exact kE _))
        quiet_step (first | (go_at_call 16; exact kE _))
        quiet_step (first | (go_at_call 16; exact kE _))
        quiet_step (first | (go_at_call 16; exact kE _))
        quiet_step (first | (go_at_call 16; exact kE _))
        quiet_step (first | (go_at_call 16; exact kE _))
        quiet_step (first | (go_at_call 16; exact kE _))
        quiet_step (first | (go_at_call 16; exact kE _))
        quiet_step (first | (go_at_call 16; exact kE _))
        quiet_step (first | (go_at_call 16; exact kE _))
        quiet_step (first | (go_at_call 16; exact kE _))
        quiet_step (first | (go_at_call 16; exact kE _))
        quiet_step (first | (go_at_call 16; exact kE _))
        with_reducible refine wpQuiet_past 17 ?hw2 ?hp2 ?hr2
        case hw2 => kernel_rfl
        case hp2 => kernel_rfl
        simp only [List.drop_succ_cons, List.drop_zero]
        with_reducible refine wpQuiet_step ?_
        intro K hK
        go_simp
        with_reducible refine hK _ ?_
        clear hK K
        with_reducible refine wpQuiet_step ?_
        intro K hK
        go_simp
        with_reducible refine hK _ ?_
        clear hK K
        refine wpQuiet_nil ?_
        rintro _ ⟨u, rfl⟩
        have hmu := u.more
        obtain ⟨w11, hw11⟩ : ∃ w11, u.val = w11 := ⟨_, rfl⟩
        rw [hw11] at hmu ⊢
        have H11 := Hid.mk (And.intro (More.trans H10.out.1 hmu) (More.tab H10.out.2 hmu))
        clear hmu hw11 hne
        clear kE lx hr10 hx10
        go_wp2_with (first
          | (go_at_call 17; refine (nput_row w11.heap.size w11.heap.size [] _ (WrAt.new w11) (by decide)).mono ?_; rintro e w12 ⟨rfl, hw12, hk12⟩; have H12 := Hid.mk (And.intro hw12 hk12); have hpp := nput_pack w11.heap.size w11.heap.size [] w12 hw12 (by decide); clear hw12 hk12)
          | (go_at_call 18; refine hpp.mono ?_; rintro e w13 ⟨rfl, hw13, hk13⟩; have H13 := Hid.mk (And.intro hw13 (H12.out.2.trans hk13)); have hps := nput_seq w11.heap.size w11.heap.size _ w13 hw13 (by decide); clear hw13 hk13 hpp)
          | (go_at_call 19; refine hps.mono ?_; rintro e w14 ⟨rfl, hw14, hk14⟩; have hk := H13.out.2.trans hk14; have hm14 : More w11 w14 := Below.trans (More.alloc w11 _) hk.below; have H14 := Hid.mk (And.intro hw14 (And.intro hk hm14)); have hpu := nput_sums w11.heap.size w11.heap.size _ w14 hw14 (tab_pos H11.out.2) (More.tab H11.out.2 hm14) (by decide); clear hw14 hk14 hk hm14 hps)
          | (go_at_call 7; refine hpu.mono ?_; rintro e w15 ⟨rfl, hw15, hk15⟩; have hm15 : More w11 w15 := Below.trans (More.alloc w11 _) (H14.out.2.1.trans hk15).below; have hby := hbytes _ _ w15 hw15; have H15 := Hid.mk (And.intro (More.trans H11.out.1 hm15) (More.tab H11.out.2 hm15)); clear hw15 hk15 hm15 hpu)
          | (go_at_call 10; refine hby.mono ?_; rintro e w' ⟨rfl, hw⟩; subst w'; clear hby)
          | (go_at_call 4; refine (sb_live w15 H15.out.2).mono ?_; rintro e wz ⟨rfl, hmz⟩; have HZ := Hid.mk (More.trans H15.out.1 hmz); clear hmz))
        go_ret
        exact ⟨rfl, HZ.out⟩

      · have hq : ((n : Int) == 0) = false := by simp; omega
        have hq0 : (0 : Int) < (n : Int) := by omega
        obtain ⟨F0, hF0⟩ : ∃ F0, fx 0 = F0 := ⟨_, rfl⟩
        have hF1 : ((F0 : Int) != 0) = true := by rcases hno with h | h; exact absurd h hn0; rw [hF0] at h; simp; omega
        have HF0 := Hid.mk hF0
        clear hF0
        go_wp2_with (go_at_call 15; refine (hdoc wr).mono ?_; rintro e w8 ⟨ws, rfl, hs8, hx8, hk8⟩; obtain ⟨aw, cw, rfl, _, _⟩ := hs8.form (by omega); have hz8 := hs8.cellAt 0 (by omega); rw [ints_get _ _ _ (by omega), HF0.out] at hz8; have hm8 : More wr w8 := Below.trans (More.alloc wr _) hk8.below; obtain ⟨c0, c1, z0, z1⟩ := wcells2 hx8.mem; have hxe := hx8.errs (E' := 3); have hms : More wr (w8.setCell ⟨wr.heap.size, 1, none⟩ (.int .i64 3)) := Below.trans hm8 (hxe.2.below.mono (Nat.le_refl _)); have hxn := hxe.1; obtain ⟨wS, hwS⟩ : ∃ wS, w8.setCell ⟨wr.heap.size, 1, none⟩ (.int .i64 3) = wS := ⟨_, rfl⟩; rw [hwS] at hms; have hxn' : XAt wS wr.heap.size wr.heap.size _ 3 := (hwS ▸ hxn); have H8 := Hid.mk (And.intro hxn' (And.intro (More.trans H7.out.1 hms) (More.tab H7.out.2 hms))); clear hx8 hk8 hm8 hdoc hs8 hxe hms hxn hxn')
        go_wp2_with (first
          | (go_at_call 9; refine (hopen wS).mono ?_; rintro e w9 ⟨rfl, hr9, hm9⟩; have hgt := hget wS.heap.size wS.heap.size w9 hr9 (More.tab H8.out.2.2 hm9) (tab_pos H8.out.2.2); have H9 := Hid.mk hm9; clear hr9 hm9 hopen hget)
          | (go_at_call 8; refine hgt.mono ?_; rintro e w10 ⟨rfl, hr10, hk10⟩; have hm10 : More wS w10 := Below.trans H9.out hk10.below; have hx10 := H8.out.1.more hm10; have H10 := Hid.mk (And.intro (More.trans H8.out.2.1 hm10) (More.tab H8.out.2.2 hm10)); clear hk10 hm10 hgt c0 c1 z0 z1))
        have kE : ∀ u : Lat w10, Calls Tryz.prog 16 #[.pointer (some ⟨wS.heap.size, 0, none⟩)] u.val fun e w' => e = .returned (.int .i64 3) ∧ ∃ u' : Lat w10, w' = u'.val := fun u => (rd_err _ _ _ _ _ u.val (hr10.more u.more)).mono fun e w' ⟨he, hw⟩ => ⟨he, u, hw⟩
        have lx : ∀ u : Lat w10, u.val.cell? ⟨wr.heap.size, 1, none⟩ = some (.int .i64 3) := fun u => (wcells2 (hx10.more u.more).mem).2.1
        have hne : Nonempty (Lat w10) := Lat.any w10
        refine wp_region_lat (by kernel_rfl) (by kernel_rfl) ?_
        quiet_step (first | (go_at_call 16; exact kE _))
        quiet_step (first | (go_at_call 16; exact kE _))
        quiet_step (first | (go_at_call 16; exact kE _))
        quiet_step (first | (go_at_call 16; exact kE _))
        quiet_step (first | (go_at_call 16; exact kE _))
        quiet_step (first | (go_at_call 16; exact kE _))
        quiet_step (first | (go_at_call 16; exact kE _))
        quiet_step (first | (go_at_call 16; exact kE _))
        quiet_step (first | (go_at_call 16; exact kE _))
        quiet_step (first | (go_at_call 16; exact kE _))
        quiet_step (first | (go_at_call 16; exact kE _))
        quiet_step (first | (go_at_call 16; exact kE _))
        quiet_step (first | (go_at_call 16; exact kE _))
        quiet_step (first | (go_at_call 16; exact kE _))
        quiet_step (first | (go_at_call 16; exact kE _))
        quiet_step (first | (go_at_call 16; exact kE _))
        quiet_step (first | (go_at_call 16; exact kE _))
        quiet_step (first | (go_at_call 16; exact kE _))
        quiet_step (first | (go_at_call 16; exact kE _))
        quiet_step (first | (go_at_call 16; exact kE _))
        quiet_step (first | (go_at_call 16; exact kE _))
        quiet_step (first | (go_at_call 16; exact kE _))
        quiet_step (first | (go_at_call 16; exact kE _))
        quiet_step (first | (go_at_call 16; exact kE _))
        quiet_step (first | (go_at_call 16; exact kE _))
        with_reducible refine wpQuiet_past 17 ?hw3 ?hp3 ?hr3
        case hw3 => kernel_rfl
        case hp3 => kernel_rfl
        simp only [List.drop_succ_cons, List.drop_zero]
        with_reducible refine wpQuiet_step ?_
        intro K hK
        go_simp
        with_reducible refine hK _ ?_
        clear hK K
        with_reducible refine wpQuiet_step ?_
        intro K hK
        go_simp
        with_reducible refine hK _ ?_
        clear hK K
        refine wpQuiet_nil ?_
        rintro _ ⟨u, rfl⟩
        have hmu := u.more
        obtain ⟨w11, hw11⟩ : ∃ w11, u.val = w11 := ⟨_, rfl⟩
        rw [hw11] at hmu ⊢
        have H11 := Hid.mk (And.intro (More.trans H10.out.1 hmu) (More.tab H10.out.2 hmu))
        clear hmu hw11 hne
        clear kE lx hr10 hx10
        go_wp2_with (first
          | (go_at_call 17; refine (nput_row w11.heap.size w11.heap.size [] _ (WrAt.new w11) (by decide)).mono ?_; rintro e w12 ⟨rfl, hw12, hk12⟩; have H12 := Hid.mk (And.intro hw12 hk12); have hpp := nput_pack w11.heap.size w11.heap.size [] w12 hw12 (by decide); clear hw12 hk12)
          | (go_at_call 18; refine hpp.mono ?_; rintro e w13 ⟨rfl, hw13, hk13⟩; have H13 := Hid.mk (And.intro hw13 (H12.out.2.trans hk13)); have hps := nput_seq w11.heap.size w11.heap.size _ w13 hw13 (by decide); clear hw13 hk13 hpp)
          | (go_at_call 19; refine hps.mono ?_; rintro e w14 ⟨rfl, hw14, hk14⟩; have hk := H13.out.2.trans hk14; have hm14 : More w11 w14 := Below.trans (More.alloc w11 _) hk.below; have H14 := Hid.mk (And.intro hw14 (And.intro hk hm14)); have hpu := nput_sums w11.heap.size w11.heap.size _ w14 hw14 (tab_pos H11.out.2) (More.tab H11.out.2 hm14) (by decide); clear hw14 hk14 hk hm14 hps)
          | (go_at_call 7; refine hpu.mono ?_; rintro e w15 ⟨rfl, hw15, hk15⟩; have hm15 : More w11 w15 := Below.trans (More.alloc w11 _) (H14.out.2.1.trans hk15).below; have hby := hbytes _ _ w15 hw15; have H15 := Hid.mk (And.intro (More.trans H11.out.1 hm15) (More.tab H11.out.2 hm15)); clear hw15 hk15 hm15 hpu)
          | (go_at_call 10; refine hby.mono ?_; rintro e w' ⟨rfl, hw⟩; subst w'; clear hby)
          | (go_at_call 4; refine (sb_live w15 H15.out.2).mono ?_; rintro e wz ⟨rfl, hmz⟩; have HZ := Hid.mk (More.trans H15.out.1 hmz); clear hmz))
        go_ret
        exact ⟨rfl, HZ.out⟩


end Go.Proofs.YtbjgbigalfhnjaaGreatDoor

namespace Go.Proofs.YtbjgbigalfhnjaaGreatDoor
open Go.RowKit


set_option maxHeartbeats 12800000 in
set_option maxRecDepth 1000000 in
theorem sbu_good (v : Value) (K : Nat) (f : Nat → Nat) (sl : List UInt8) (w : World) (h : ZRd w v K (fun j => (f j : Int))) (hF : sm f K ≤ 1099511627776) (hK : K ≤ 40) (hsl : sl.length ≤ 200) (hT : TabIn w) (n u t1 er1 t2 er2 t3 : Nat) (vv : List UInt8) (hR : Reads sl 0 n u vv t1 er1 t2 er2 t3 0) (hfew : n ≤ 2400 ∧ gBits n u ≤ 1000000) (hgd : Good n u (ofB vv)) (hn0 : 0 < n) (hf0 : gF n u (ofB vv) 0 = 0) :
    Calls Tryz.prog 3 #[v, .string (bs sl)] w fun e w' => e = .returned (.bool true) ∧ More w w' := by

  have hb0 := tab_pos hT
  have hsz : (bs sl).size = sl.length := bs_size sl
  have hsu := ref_sums v K f w h (by omega) hF
  have hnew := fun (w' : World) (hm : More w w') => px_new v K f w' (h.more hm) (by omega) hF
  have hcl := fun (w' : World) (hm : More w w') => h.more hm
  obtain ⟨ao, cap, rfl⟩ := h.shape
  have hLb := seqB_few hF hK
  have hput := fun base wb base' q (w' : World) (h1 : WrAt w' base wb []) h2 (h3 : PxAt w' base' q f K) h4 => put_sums base wb base' q f K [] w' h1 h2 h3 h4 (by omega) (by decide)
  have hrs := fun vv (w' : World) (h : ZRd w' vv (K + 1) (fun j => (sm f j : Int))) => rsb_seq vv (K + 1) (sm f) w' h (sm_climbs hF) (by omega)
  obtain ⟨L, hL⟩ : ∃ L, seqB (sm f) (K + 1) = L := ⟨_, rfl⟩
  have hback := fun base b (w' : World) (h1 : RdAt w' base b L 0 0) h2 h3 => sums_back f K base b L w' hL.symm hF (by omega) h1 h2 h3
  rw [hL] at hLb
  simp only [hL, List.nil_append] at hput
  simp only [hL] at hrs
  have hop1 := fun w => rd_open L (by omega) w
  have hopen := fun w => rd_open sl (by omega) w
  have hbytes : ∀ base b (w1 : World), WrAt w1 base b [0, 0, 0, 1, 0, 1] → Calls Tryz.prog 10 #[.pointer (some ⟨b, 0, none⟩)] w1 fun e w' => e = .returned (.string { data := #[0, 0, 0, 1, 0, 1] }) ∧ w' = w1 := fun base b w1 h => wr_bytes base b [0, 0, 0, 1, 0, 1] w1 h
  obtain ⟨SK, hSK⟩ : ∃ SK, sm f K = SK := ⟨_, rfl⟩
  obtain ⟨M1, hM1⟩ : ∃ M1, K + 1 = M1 := ⟨_, rfl⟩
  have hKM : K < M1 := by omega
  rw [hM1] at hsu
  simp only [hM1] at hrs
  have HH := Hid.mk (And.intro hT (And.intro hcl (And.intro hSK hM1)))

  have hdoc := fun (w' : World) => udoc_good _ _ 0 n u t1 er1 t2 er2 t3 vv sl _ (ux_new w' sl (by omega)) ⟨by omega, hfew.2⟩ hR hgd
  have hget := fun base b (w' : World) (h1 : RdAt w' base b sl 0 0) h2 h3 => sums_good base b 0 0 n u t1 er1 t2 er2 t3 vv sl w' h1 h2 h3 ⟨by omega, hfew.2⟩ (by rw [List.drop_zero]; exact hR) hgd hn0 hf0
  have hfX := hgd.climbs
  obtain ⟨fx, hfx⟩ : ∃ fx, gF n u (ofB vv) = fx := ⟨_, rfl⟩
  rw [hfx] at hf0 hfX
  simp only [hfx, Nat.zero_add] at hget hdoc
  have hn24 := hfew.1
  obtain ⟨n1, hn1⟩ : ∃ n1, n = n1 + 1 := ⟨n - 1, by omega⟩
  subst hn1
  have hlast : sm (stp fx) n1 = fx n1 := sm_stp hfX hf0 n1 (by omega)
  simp only [Nat.add_sub_cancel] at hget
  obtain ⟨UL, hUL⟩ : ∃ UL, fx n1 = UL := ⟨_, rfl⟩
  rw [hUL] at hlast
  obtain ⟨N1, hN1⟩ : ∃ N1, n1 + 1 = N1 := ⟨_, rfl⟩
  have hnN : n1 < N1 := by omega
  have hni : (N1 : Int) - 1 = (n1 : Int) := by omega
  have hwn1 : IntKind.i64.wrap (n1 : Int) = n1 := by rw [IntKind.wrap_i64]; omega
  have hN0 : ¬ (N1 : Int) = 0 := by omega
  simp only [hN1] at hdoc hget
  have HX := Hid.mk (And.intro hf0 (And.intro hlast (And.intro hUL hN1)))
  obtain ⟨MS, hMS⟩ : ∃ MS, sl.length = MS := ⟨_, rfl⟩
  rw [hMS] at hsz hsl
  clear hR hfew hgd hfx hMS hf0 hlast hUL hfX hn0 hN1 hn24
  clear h hT hcl hL hF hSK hM1 hLb
  go_enter Tryz.func3, Tryz.ntmps3
  go_wp2_with (first
    | (go_at_call 5; refine hsu.mono ?_; rintro e w1 ⟨ao1, c1, rfl, ho1, hm1⟩; obtain ⟨g1, c1', hsh, _, _⟩ := ho1.form (by omega); obtain ⟨rfl, rfl⟩ : ao1 = some ⟨g1, 0, none⟩ ∧ c1 = c1' := (by simpa using hsh); have H1 := Hid.mk (And.intro ho1 (And.intro hm1 (More.tab HH.out.1 hm1))); clear ho1 hm1 hsu hsh)
    | (go_at_call 6; refine (hnew w1 H1.out.2.1).mono ?_; rintro e w2 ⟨q, rfl, hq2, hm2⟩; have H2 := Hid.mk (And.intro hq2 (And.intro (More.trans H1.out.2.1 hm2) (And.intro (More.tab H1.out.2.2 hm2) (More.own H1.out.1 hm2)))); clear hq2 hm2 hnew)
    | (go_at_call 7; refine (hput w2.heap.size w2.heap.size _ q _ (WrAt.new w2) (tab_pos H2.out.2.2.1) (H2.out.1.more (More.alloc _ _)) (More.tab H2.out.2.2.1 (More.alloc _ _))).mono ?_; rintro e w3 ⟨rfl, hw3, hk3⟩; have hm3 : More w2 w3 := Below.trans (More.alloc w2 _) (hk3.below); have H3 := Hid.mk (And.intro hw3 (And.intro hm3 (More.tab H2.out.2.2.1 hm3))); have hby3 := wr_bytes _ _ _ w3 hw3; clear hw3 hk3 hm3 hput)
    | (go_at_call 10; refine hby3.mono ?_; rintro e w' ⟨rfl, hw⟩; subst w'; clear hby3)
    | (go_at_call 9; refine (hop1 w3).mono ?_; rintro e w4 ⟨rfl, hr4, hm4⟩; have H4 := Hid.mk (And.intro hr4 (And.intro hm4 (More.tab H3.out.2.2 hm4))); clear hr4 hm4 hop1)
    | (go_at_call 8; refine (hback w3.heap.size w3.heap.size w4 H4.out.1 H4.out.2.2 (tab_pos H3.out.2.2)).mono ?_; rintro e w5 ⟨q5, g5, rfl, hq5, hg5, hk5⟩; have hm5 : More w2 w5 := Below.trans H3.out.2.1 ((Below.trans H4.out.2.1 hk5.below).mono H3.out.2.1.size); have hm35 : More w3 w5 := Below.trans H4.out.2.1 hk5.below; have H5 := Hid.mk (And.intro hq5 (And.intro hg5 (And.intro (H3.out.1.more hm35) (And.intro (More.trans H2.out.2.1 hm5) (And.intro (More.tab H2.out.2.2.1 hm5) (More.own H2.out.2.2.2 hm5)))))); clear hq5 hg5 hk5 hm5 hm35 hback))
  have hsm5 : sm g5 K = SK := by rw [sm_congr K (fun j hj => H5.out.2.1 j hj)]; exact HH.out.2.2.1
  have kB : ∀ u : Lat w5, Calls Tryz.prog 10 #[.pointer (some ⟨w2.heap.size, 0, none⟩)] u.val fun e w' => e = .returned (.string (bs L)) ∧ ∃ u' : Lat w5, w' = u'.val := fun u => (wr_bytes _ _ _ u.val (H5.out.2.2.1.more u.more)).mono fun e w' ⟨he, hw⟩ => ⟨he, u, hw⟩
  have kS : ∀ u : Lat w5, Calls Tryz.prog 11 #[.slice (some ⟨g1, 0, none⟩) M1 c1] u.val fun e w' => e = .returned (.string (bs L)) ∧ ∃ u' : Lat w5, w' = u'.val := fun u => (hrs _ u.val ((zrd_own H5.out.2.2.2.2.2).more u.more)).mono fun e w' ⟨he, hm⟩ => ⟨he, u.grown hm⟩
  have kL : ∀ u : Lat w5, Calls Tryz.prog 12 #[.pointer (some ⟨q5, 0, none⟩)] u.val fun e w' => e = .returned (.int .i64 K) ∧ ∃ u' : Lat w5, w' = u'.val := fun u => (px_len _ q5 g5 K u.val (H5.out.1.more u.more)).mono fun e w' ⟨he, hw⟩ => ⟨he, u, hw⟩
  have kT : ∀ u : Lat w5, Calls Tryz.prog 13 #[.pointer (some ⟨q5, 0, none⟩)] u.val fun e w' => e = .returned (.int .i64 (SK : Nat)) ∧ ∃ u' : Lat w5, w' = u'.val := fun u => (px_total _ q5 g5 K u.val (H5.out.1.more u.more)).mono fun e w' ⟨he, hm⟩ => ⟨by rw [hsm5] at he; exact he, u.grown hm⟩
  have l1 : ∀ u : Lat w5, u.val.cell? ⟨g1, K, none⟩ = some (.int .i64 (SK : Nat)) := fun u => by
    have := (More.own H5.out.2.2.2.2.2 u.more).cellAt K (by omega)
    rw [ints_get _ _ _ hKM, HH.out.2.2.1] at this
    exact this
  have hne : Nonempty (Lat w5) := Lat.any w5
  refine wp_region_lat (by kernel_rfl) (by kernel_rfl) ?_
  repeat (quiet_step (first | (go_at_call 10; exact kB _) | (go_at_call 11; exact kS _) | (go_at_call 12; exact kL _) | (go_at_call 13; exact kT _)))
  refine wpQuiet_nil ?_
  rintro _ ⟨u, rfl⟩
  have hmu := u.more
  obtain ⟨w6, hw6⟩ : ∃ w6, u.val = w6 := ⟨_, rfl⟩
  rw [hw6] at hmu ⊢
  have H6 := Hid.mk (And.intro (H5.out.1.more hmu) (And.intro H5.out.2.1 (And.intro (More.trans H5.out.2.2.2.1 hmu) (More.tab H5.out.2.2.2.2.1 hmu))))
  clear hmu hw6 kB kS kL kT l1 hne hsm5 hrs
  go_wp2
  go_loopw [11] (fun i wr => ∃ k : Nat, k ≤ K ∧ i = .int .i64 k ∧ Hid (More w6 wr)) (fun i _ => K - (intOf i).toNat)
  case atStart => exact ⟨0, Nat.zero_le _, rfl, Hid.mk (Below.refl _ _)⟩
  case round =>
    obtain ⟨k, hk, rfl, HR⟩ := hrel
    by_cases hkK : k < K
    · have hmr := More.trans H6.out.2.2.1 HR.out
      obtain ⟨g0, o0, rfl, hc⟩ := (HH.out.2.1 wr hmr).cell (w' := wr) k hkK
      have hck := hc (Below.refl _ _)
      have hat := fun (w' : World) (hm : More wr w') => px_at _ q5 g5 K (k : Int) w' (H6.out.1.more (More.trans HR.out hm))
      rw [atZ_in g5 K k hkK, H6.out.2.1 k hkK] at hat
      obtain ⟨X, hX⟩ : ∃ X, f k = X := ⟨_, rfl⟩
      rw [hX] at hat hck
      have l1 : ∀ u : Lat wr, u.val.cell? ⟨g0, o0 + k, none⟩ = some (.int .i64 (X : Nat)) := fun u => (u.more.cell (p := ⟨g0, o0 + k, none⟩) (World.block_lt_of_cell? wr _ hck)).trans hck
      have k1 : ∀ u : Lat wr, Calls Tryz.prog 14 #[.pointer (some ⟨q5, 0, none⟩), .int .i64 k] u.val fun e w' => e = .returned (.int .i64 (X : Nat)) ∧ ∃ u' : Lat wr, w' = u'.val := fun u => (hat u.val u.more).mono fun e w' ⟨he, hm⟩ => ⟨he, u.grown hm⟩
      have hne : Nonempty (Lat wr) := Lat.any wr
      clear hc hck hX hmr hat
      go_wp2
      refine wp_region_lat (by kernel_rfl) (by kernel_rfl) ?_
      repeat (quiet_step ((go_at_call 14; exact k1 _)))
      refine wpQuiet_nil ?_
      rintro _ ⟨u, rfl⟩
      have HU := Hid.mk (More.trans HR.out u.more)
      clear l1 k1
      go_wp2
      exact ⟨⟨k + 1, by omega, by go_num, HU⟩, by simp [intOf]; omega⟩
    · obtain rfl : K = k := by omega
      have H7 := Hid.mk (And.intro (More.trans H6.out.2.2.1 HR.out) (More.tab H6.out.2.2.2 HR.out))
      clear H6 HR
      go_wp2_with (first
        | (go_at_call 15; refine (hdoc wr).mono ?_; rintro e w8 ⟨ws, rfl, hs8, hx8, hk8⟩; obtain ⟨aw, cw, rfl, _, _⟩ := hs8.form (by omega); have hm8 : More wr w8 := Below.trans (More.alloc wr _) hk8.below; obtain ⟨c0, c1, z0, z1⟩ := wcells2 hx8.mem; have hz8 := hs8.cellAt 0 (by omega); rw [ints_get _ _ _ (by omega), HX.out.1] at hz8; have H8 := Hid.mk (And.intro hx8 (And.intro (More.trans H7.out.1 hm8) (And.intro (More.tab H7.out.2 hm8) hs8))); clear hx8 hk8 hm8 hdoc hs8)
        | (go_at_call 9; refine (hopen w8).mono ?_; rintro e w9 ⟨rfl, hr9, hm9⟩; have hgt := hget w8.heap.size w8.heap.size w9 hr9 (More.tab H8.out.2.2.1 hm9) (tab_pos H8.out.2.2.1); have H9 := Hid.mk hm9; clear hr9 hm9 hopen hget)
        | (go_at_call 8; refine hgt.mono ?_; rintro e w10 ⟨qg, rfl, hq10, hr10, hk10⟩; have hm10 : More w8 w10 := Below.trans H9.out hk10.below; have hx10 := H8.out.1.more hm10; have ho10 := More.own H8.out.2.2.2 hm10; have H10 := Hid.mk (And.intro (More.trans H8.out.2.1 hm10) (More.tab H8.out.2.2.1 hm10)); clear hk10 hm10 hgt c0 c1 z0 z1 hz8))
      have kE : ∀ u : Lat w10, Calls Tryz.prog 16 #[.pointer (some ⟨w8.heap.size, 0, none⟩)] u.val fun e w' => e = .returned (.int .i64 0) ∧ ∃ u' : Lat w10, w' = u'.val := fun u => (rd_err _ _ _ _ _ u.val (hr10.more u.more)).mono fun e w' ⟨he, hw⟩ => ⟨he, u, hw⟩
      have lx : ∀ u : Lat w10, u.val.cell? ⟨wr.heap.size, 1, none⟩ = some (.int .i64 0) := fun u => (wcells2 (hx10.more u.more).mem).2.1
      have kL : ∀ u : Lat w10, Calls Tryz.prog 12 #[.pointer (some ⟨qg, 0, none⟩)] u.val fun e w' => e = .returned (.int .i64 n1) ∧ ∃ u' : Lat w10, w' = u'.val := fun u => (px_len _ qg (stp fx) n1 u.val (hq10.more u.more)).mono fun e w' ⟨he, hw⟩ => ⟨he, u, hw⟩
      have kT : ∀ u : Lat w10, Calls Tryz.prog 13 #[.pointer (some ⟨qg, 0, none⟩)] u.val fun e w' => e = .returned (.int .i64 (UL : Nat)) ∧ ∃ u' : Lat w10, w' = u'.val := fun u => (px_total _ qg (stp fx) n1 u.val (hq10.more u.more)).mono fun e w' ⟨he, hm⟩ => ⟨by rw [HX.out.2.1] at he; exact he, u.grown hm⟩
      have l1 : ∀ u : Lat w10, u.val.cell? ⟨aw, n1, none⟩ = some (.int .i64 (UL : Nat)) := fun u => by
        have := (More.own ho10 u.more).cellAt n1 (by omega)
        rw [ints_get _ _ _ hnN, HX.out.2.2.1] at this
        exact this
      have hne : Nonempty (Lat w10) := Lat.any w10
      refine wp_region_lat (by kernel_rfl) (by kernel_rfl) ?_
      repeat (quiet_step (first | (go_at_call 16; exact kE _) | (go_at_call 12; exact kL _) | (go_at_call 13; exact kT _)))
      refine wpQuiet_nil ?_
      rintro _ ⟨u, rfl⟩
      have hmu := u.more
      obtain ⟨w11, hw11⟩ : ∃ w11, u.val = w11 := ⟨_, rfl⟩
      rw [hw11] at hmu ⊢
      have H11 := Hid.mk (And.intro (More.trans H10.out.1 hmu) (More.tab H10.out.2 hmu))
      clear hmu hw11 hne
      clear kE lx hr10 hx10 kL kT l1 hq10 ho10
      go_wp2_with (first
        | (go_at_call 17; refine (nput_row w11.heap.size w11.heap.size [] _ (WrAt.new w11) (by decide)).mono ?_; rintro e w12 ⟨rfl, hw12, hk12⟩; have H12 := Hid.mk (And.intro hw12 hk12); have hpp := nput_pack w11.heap.size w11.heap.size [] w12 hw12 (by decide); clear hw12 hk12)
        | (go_at_call 18; refine hpp.mono ?_; rintro e w13 ⟨rfl, hw13, hk13⟩; have H13 := Hid.mk (And.intro hw13 (H12.out.2.trans hk13)); have hps := nput_seq w11.heap.size w11.heap.size _ w13 hw13 (by decide); clear hw13 hk13 hpp)
        | (go_at_call 19; refine hps.mono ?_; rintro e w14 ⟨rfl, hw14, hk14⟩; have hk := H13.out.2.trans hk14; have hm14 : More w11 w14 := Below.trans (More.alloc w11 _) hk.below; have H14 := Hid.mk (And.intro hw14 (And.intro hk hm14)); have hpu := nput_sums w11.heap.size w11.heap.size _ w14 hw14 (tab_pos H11.out.2) (More.tab H11.out.2 hm14) (by decide); clear hw14 hk14 hk hm14 hps)
        | (go_at_call 7; refine hpu.mono ?_; rintro e w15 ⟨rfl, hw15, hk15⟩; have hm15 : More w11 w15 := Below.trans (More.alloc w11 _) (H14.out.2.1.trans hk15).below; have hby := hbytes _ _ w15 hw15; have H15 := Hid.mk (And.intro (More.trans H11.out.1 hm15) (More.tab H11.out.2 hm15)); clear hw15 hk15 hm15 hpu)
        | (go_at_call 10; refine hby.mono ?_; rintro e w' ⟨rfl, hw⟩; subst w'; clear hby)
        | (go_at_call 4; refine (sb_live w15 H15.out.2).mono ?_; rintro e wz ⟨rfl, hmz⟩; have HZ := Hid.mk (More.trans H15.out.1 hmz); clear hmz))
      go_ret
      exact ⟨rfl, HZ.out⟩


end Go.Proofs.YtbjgbigalfhnjaaGreatDoor
