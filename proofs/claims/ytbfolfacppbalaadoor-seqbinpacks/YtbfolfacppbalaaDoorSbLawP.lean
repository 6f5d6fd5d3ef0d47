/-
  SeqbinPacks walked.
-/
import Derived.Test.YtbfolfacppbalaaDoorSbLive
import Derived.Test.YtbfolfacppbalaaDoorSbPackR
import Derived.Test.YtbfolfacppbalaaDoorPackOf
namespace Go.Proofs.YtbfolfacppbalaaDoor
open Go.RowKit

/-- What is wrong in the end. -/
def pErr (er : Nat) : Nat := if er = 0 then 3 else er
theorem pErr_ne (er : Nat) : pErr er ≠ 0 := by unfold pErr; split <;> omega
theorem getPack_bad (base b a E d n t1 er1 t2 er2 t3 er : Nat) (v l : List UInt8) (w : World) (h : RdAt w base b l a E) (hR : ReadsP (l.drop a) E d n v t1 er1 t2 er2 t3 er) (hbad : ¬ (er = 0 ∧ ofB v < 2 ^ (d * n))) :
    Calls Tryd.prog 26 #[.pointer (some ⟨b, 0, none⟩)] w fun e w' => e = .returned (.pointer none) ∧ RdAt w' base b l (a + (t1 + t2 + t3)) (pErr er) ∧ KeepsT RT base w w' :=
  (sb_getPack base b a E d n t1 er1 t2 er2 t3 er v l w h hR).mono fun e w' hg => by
    rcases hg.what with ⟨h1, h2, h3⟩ | ⟨h1, h2, _⟩ | ⟨h1, _, h2, h3⟩
    · exact ⟨h2, by unfold pErr; rw [if_neg h1]; exact h3, hg.keeps⟩
    · exact absurd ⟨h1, h2⟩ hbad
    · exact ⟨h2, by unfold pErr; rw [if_pos h1]; exact h3, hg.keeps⟩
theorem getPack_good (base b a E d n t1 er1 t2 er2 t3 : Nat) (v l : List UInt8) (w : World) (h : RdAt w base b l a E) (hR : ReadsP (l.drop a) E d n v t1 er1 t2 er2 t3 0) (hgd : ofB v < 2 ^ (d * n)) :
    Calls Tryd.prog 26 #[.pointer (some ⟨b, 0, none⟩)] w fun e w' => ∃ p, e = .returned (.pointer (some ⟨p, 0, none⟩)) ∧ PackAt w' w.heap.size p (ofB v) d n ∧ RdAt w' base b l (a + (t1 + t2 + t3)) 0 ∧ KeepsT RT base w w' :=
  (sb_getPack base b a E d n t1 er1 t2 er2 t3 0 v l w h hR).mono fun e w' hg => by
    rcases hg.what with ⟨h1, _⟩ | ⟨_, _, h2, p, h3, h4⟩ | ⟨_, h1, _⟩
    · exact absurd rfl h1
    · exact ⟨p, h3, h4, h2, hg.keeps⟩
    · exact absurd hgd h1
theorem docPack_bad (base x E d n t1 er1 t2 er2 t3 er : Nat) (v l : List UInt8) (w : World) (h : XAt w base x l E) (hR : ReadsP l E d n v t1 er1 t2 er2 t3 er) (hbad : ¬ (er = 0 ∧ ofB v < 2 ^ (d * n))) :
    Calls Tryd.prog 31 #[.pointer (some ⟨x, 0, none⟩)] w fun e w' => ∃ s, e = .returned (.tuple #[.int .i64 d, s]) ∧ XAt w' base x (l.drop (t1 + t2 + t3)) (pErr er) ∧ KeepsT XT base w w' :=
  (rsb_getPack base x E d n t1 er1 t2 er2 t3 er v l w h hR).mono fun e w' hg => by
    rcases hg.what with ⟨h1, h2, s, h3⟩ | ⟨h1, h2, _⟩ | ⟨h1, _, h2, s, h3⟩
    · exact ⟨s, h3, by unfold pErr; rw [if_neg h1]; exact h2, hg.keeps⟩
    · exact absurd ⟨h1, h2⟩ hbad
    · exact ⟨s, h3, by unfold pErr; rw [if_pos h1]; exact h2, hg.keeps⟩
theorem docPack_good (base x E d n t1 er1 t2 er2 t3 : Nat) (v l : List UInt8) (w : World) (h : XAt w base x l E) (hR : ReadsP l E d n v t1 er1 t2 er2 t3 0) (hgd : ofB v < 2 ^ (d * n)) :
    Calls Tryd.prog 31 #[.pointer (some ⟨x, 0, none⟩)] w fun e w' => ∃ s, e = .returned (.tuple #[.int .i64 d, s]) ∧ w'.ownsRow w.heap.size 77 1 s n (u64s (fun i => ofB v / 2 ^ (d * i) % 2 ^ d) n) ∧ XAt w' base x (l.drop (t1 + t2 + t3)) 0 ∧ KeepsT XT base w w' :=
  (rsb_getPack base x E d n t1 er1 t2 er2 t3 0 v l w h hR).mono fun e w' hg => by
    rcases hg.what with ⟨h1, _⟩ | ⟨_, _, h2, s, h3, h4⟩ | ⟨_, h1, _⟩
    · exact absurd rfl h1
    · exact ⟨s, h3, h4, h2, hg.keeps⟩
    · exact absurd hgd h1
theorem xp_new (w : World) (l : List UInt8) (hl : l.length ≤ 100000000) : XAt (w.alloc (.cells #[.string (bs l), .int .i64 0] 44)) w.heap.size w.heap.size l 0 :=
  ⟨Nat.le_refl _, by simp, hl, heap_alloc_new _ _⟩
/-- What is put is read. -/
theorem readsP_back (d n V : Nat) (hd : d ≤ 64) (hn : n ≤ 1048576) (s : List UInt8) : ReadsP ((num d ++ (num n ++ rby V (d * n))) ++ s) 0 d n (rby V (d * n)) (num d).length 0 (num n).length 0 (nby (d * n)) 0 := by
  refine ⟨?_, ?_, ?_⟩
  · rw [st_ok, List.append_assoc]
    exact bnd_num (by omega) (by omega) _
  · rw [st_ok, List.append_assoc, List.drop_left, List.append_assoc]
    exact bnd_num (by omega) (by omega) _
  · rw [st_ok, List.append_assoc, ← List.drop_drop, List.drop_left, List.append_assoc, List.drop_left]
    have := rdR_all (rby V (d * n)) s
    rw [rby_len] at this
    exact this

set_option linter.unusedSimpArgs false in
set_option maxHeartbeats 12800000 in
set_option maxRecDepth 1000000 in
theorem sb_packs_bad (v : Value) (K : Nat) (f : Nat → Nat) (sl : List UInt8) (w : World) (h : Rd w v K f) (hf : ∀ j, j < K → f j < 18446744073709551616) (hT : TabIn w) (hK : K ≤ 40) (hsl : sl.length ≤ 200) (d n t1 er1 t2 er2 t3 er : Nat) (u : List UInt8) (hR : ReadsP sl 0 d n u t1 er1 t2 er2 t3 er) (hbad : ¬ (er = 0 ∧ ofB u < 2 ^ (d * n))) :
    Calls Tryd.prog 4 #[v, .string (bs sl)] w fun e w' => e = .returned (.bool true) ∧ More w w' := by
  have hsz : (bs sl).size = sl.length := bs_size sl
  have hD := wid_le64 f K hf
  have hfi := fits f K (wid f K) hf (Nat.le_refl _)
  have hVl := packV_lt (wid f K) f K hfi
  have hfit := pack_fit v K f (w.alloc (.cells #[.slice none 0 0] 31)) (Rd.more h (More.alloc _ _)) hf (by omega)
  have hwid := fun (w' : World) (hm : More w w') => refp_width v K f w' (Rd.more h hm) hf (by omega)
  have hrp := fun (w' : World) (hm : More w w') => rsb_pack v K (wid f K) f w' (Rd.more h hm) hfi hD (by omega)
  have hkw := fun (w' : World) (hm : More w w') => refp_words v K (wid f K) f w' (Rd.more h hm) hfi hD (by omega)
  obtain ⟨D, hDe⟩ : ∃ D, wid f K = D := ⟨_, rfl⟩
  rw [hDe] at hD hfi hVl hfit
  simp only [hDe] at hwid hrp hkw
  obtain ⟨PV, hPV⟩ : ∃ PV, packV D f K = PV := ⟨_, rfl⟩
  rw [hPV] at hVl hfit
  simp only [hPV] at hrp hkw
  have hput := fun base wb base' p (w' : World) (h1 : WrAt w' base wb []) (h2 : PackAt w' base' p PV D K) => sb_putPack base wb base' p PV D K [] w' h1 h2 (by omega) (by decide)
  simp only [List.nil_append] at hput
  have hgp := fun base b (w' : World) (h1 : RdAt w' base b ((num D ++ (num K ++ rby PV (D * K))) ++ sl) 0 0) => getPack_good base b 0 0 D K _ 0 _ 0 _ _ _ w' h1 (by rw [List.drop_zero]; exact readsP_back D K PV hD (by omega) sl) (by rw [ofB_rby hVl]; exact hVl)
  simp only [ofB_rby hVl, Nat.zero_add] at hgp
  have hDK : D * K ≤ 2560 := Nat.mul_le_mul hD hK
  have hL1 := (num_ten (v := D) (by omega)).1
  have hL2 := (num_ten (v := K) (by omega)).1
  have hLl : (num D ++ (num K ++ rby PV (D * K))).length = (num D).length + (num K).length + nby (D * K) := by simp only [List.length_append, rby_len]; omega
  rw [← hLl] at hgp
  have hLb : (num D ++ (num K ++ rby PV (D * K))).length ≤ 1000 := by rw [hLl, nby_is]; omega
  obtain ⟨L, hL⟩ : ∃ L, num D ++ (num K ++ rby PV (D * K)) = L := ⟨_, rfl⟩
  rw [hL] at hLb
  simp only [hL] at hgp hput hrp
  have hadd1 := fun w => add_sum L sl (by omega) w
  have hop1 := fun w => rd_open (L ++ sl) (by rw [List.length_append]; omega) w
  have hdl1 : Hid (((L ++ sl).drop L.length).length = sl.length) := Hid.mk (by rw [List.drop_left])
  obtain ⟨Z, hZ⟩ : ∃ Z, L ++ sl = Z := ⟨_, rfl⟩
  rw [hZ] at hdl1
  simp only [hZ] at hop1 hadd1 hgp
  have hopen := fun w => rd_open sl (by omega) w
  obtain ⟨ao, cap, rfl⟩ := h.shape
  have HT := Hid.mk hT
  have hdoc := fun (w' : World) => docPack_bad _ _ 0 d n t1 er1 t2 er2 t3 er u sl _ (xp_new w' sl (by omega)) hR hbad
  have hget := fun base b (w' : World) (h1 : RdAt w' base b sl 0 0) => getPack_bad base b 0 0 d n t1 er1 t2 er2 t3 er u sl w' h1 (by rw [List.drop_zero]; exact hR) hbad
  obtain ⟨G, hG⟩ : ∃ G, pErr er = G := ⟨_, rfl⟩
  have hG0 : G ≠ 0 := by rw [← hG]; exact pErr_ne er
  obtain ⟨t, ht⟩ : ∃ t, t1 + t2 + t3 = t := ⟨_, rfl⟩
  simp only [hG, ht, Nat.zero_add] at hget hdoc
  have hGi : ¬ (G : Int) = 0 := by omega
  obtain ⟨M, hM⟩ : ∃ M, sl.length = M := ⟨_, rfl⟩
  rw [hM] at hsz hsl
  clear hR hbad hG ht hDe hPV hLl hLb hL hZ hL1 hL2 hVl hfi hf h hT
  go_enter Tryd.func4, Tryd.ntmps4
  go_wp2_with (first
    | (go_at_call 23; refine hfit.mono ?_; rintro e w1 ⟨p, rfl, hp1, hm1⟩; have hpu := hput w.heap.size w.heap.size _ p w1 ((WrAt.new w).more hm1) hp1; have H1 := Hid.mk (More.trans (More.alloc w _) hm1); clear hp1 hm1 hfit hput)
    | (go_at_call 22; refine hpu.mono ?_; rintro e w2 ⟨rfl, hw2, hk2⟩; have hm2 : More w w2 := Below.trans H1.out hk2.below; have hby2 := wr_bytes _ _ _ w2 hw2; have hrp2 := hrp w2 hm2; have hwi2 := hwid w2 hm2; have H2 := Hid.mk (And.intro hw2 hm2); clear hw2 hk2 hm2 hpu hrp)
    | (go_at_call 11; refine hby2.mono ?_; rintro e w' ⟨rfl, hw⟩; subst w'; clear hby2)
    | (go_at_call 25; refine hwi2.mono ?_; rintro e w' ⟨rfl, hw⟩; subst w'; clear hwi2)
    | (go_at_call 24; refine hrp2.mono ?_; rintro e w3 ⟨rfl, hm3⟩; have hby3 := wr_bytes _ _ _ w3 (H2.out.1.more hm3); have H3 := Hid.mk (More.trans H2.out.2 hm3); clear hm3 hrp2)
    | (go_at_call 11; refine hby3.mono ?_; rintro e w' ⟨rfl, hw⟩; subst w'; clear hby3)
    | (go_at_call 10; refine (hop1 w3).mono ?_; rintro e w4 ⟨rfl, hr4, hm4⟩; have hgp4 := hgp w3.heap.size w3.heap.size w4 hr4; have H4 := Hid.mk hm4; clear hr4 hm4 hop1 hgp)
    | (go_at_call 26; refine hgp4.mono ?_; rintro e w5 ⟨p5, rfl, hp5, hr5, hk5⟩; have hm5 : More w w5 := More.trans H3.out (Below.trans H4.out hk5.below); have hln5 := pack_len p5 PV D K w5 hp5.rd; have hpw5 := pack_width p5 PV D K w5 hp5.rd; have hwi5 := hwid w5 hm5; have hle5 := rd_left _ _ _ _ _ w5 hr5; rw [hdl1.out] at hle5; have H5 := Hid.mk (And.intro hp5 hm5); clear hp5 hr5 hk5 hm5 hgp4)
    | (go_at_call 27; refine hln5.mono ?_; rintro e w' ⟨rfl, hw⟩; subst w'; clear hln5)
    | (go_at_call 28; refine hpw5.mono ?_; rintro e w' ⟨rfl, hw⟩; subst w'; clear hpw5)
    | (go_at_call 25; refine hwi5.mono ?_; rintro e w' ⟨rfl, hw⟩; subst w'; clear hwi5)
    | (go_at_call 15; refine hle5.mono ?_; rintro e w6 ⟨rfl, m6, hw6⟩; have hm6 : More w5 w6 := (by rw [hw6]; exact More.drewN w5 m6); have hwo6 := pack_words _ p5 PV D K w6 (H5.out.1.more hm6); have H6 := Hid.mk (More.trans H5.out.2 hm6); clear hw6 hm6 hle5)
    | (go_at_call 29; refine hwo6.mono ?_; rintro e w7 ⟨v7, rfl, ho7, hm7⟩; obtain ⟨a7, c7, rfl⟩ := shape_of ho7; have hm07 := More.trans H6.out hm7; have hwi7 := hwid w7 hm07; have hkw7 := hkw w7 hm07; have H7 := Hid.mk (And.intro ho7 hm07); clear ho7 hm7 hm07 hwo6 hwid hkw)
    | (go_at_call 25; refine hwi7.mono ?_; rintro e w' ⟨rfl, hw⟩; subst w'; clear hwi7)
    | (go_at_call 30; refine hkw7.mono ?_; rintro e w8 ⟨v8, rfl, ho8, hm8⟩; obtain ⟨a8, c8, rfl⟩ := shape_of ho8; have hsm8 := same_as _ _ (nw (D * K)) (wd PV) w8 (rd_of_own (More.own H7.out.1 hm8)) (rd_of_own ho8) (by unfold nw; omega); have H8 := Hid.mk (More.trans H7.out.2 hm8); clear ho8 hm8 hkw7)
    | (go_at_call 19; refine hsm8.mono ?_; rintro e w9 ⟨rfl, m9, hw9⟩; have hm9 : More w w9 := (by rw [hw9]; exact More.trans H8.out (More.drewN w8 m9)); have hdoc9 := hdoc w9; have H9 := Hid.mk (And.intro hm9 (More.tab HT.out hm9)); clear hw9 hm9 hsm8 hdoc)
    | (go_at_call 31; refine hdoc9.mono ?_; rintro e w10 ⟨s10, rfl, hx10, hk10⟩; have hm10 : More w9 w10 := Below.trans (More.alloc w9 _) hk10.below; have H10 := Hid.mk (And.intro hx10 (And.intro (More.trans H9.out.1 hm10) (More.tab H9.out.2 hm10))); clear hx10 hk10 hm10 hdoc9)
    | (go_at_call 10; refine (hopen w10).mono ?_; rintro e w11 ⟨rfl, hr11, hm11⟩; have hgt11 := hget w10.heap.size w10.heap.size w11 hr11; have H11 := Hid.mk hm11; clear hr11 hm11 hopen hget)
    | (go_at_call 26; refine hgt11.mono ?_; rintro e w12 ⟨rfl, hr12, hk12⟩; have hm12 : More w10 w12 := Below.trans H11.out hk12.below; have H12 := Hid.mk (And.intro hr12 (And.intro (More.trans H10.out.2.1 hm12) (And.intro (More.tab H10.out.2.2 hm12) (H10.out.1.more hm12)))); clear hr12 hk12 hm12 hgt11))
  refine wp_region_any (by kernel_rfl) ?_
  change wpAny _ _ _ _ _ _ _ (World.drew _)
  obtain ⟨w13, hw13⟩ : ∃ w13, World.drew w12 = w13 := ⟨_, rfl⟩
  rw [hw13]
  have hm13 : More w12 w13 := by rw [← hw13]; exact More.drew _
  clear hw13
  have H13 := Hid.mk (And.intro (H12.out.1.more hm13) (And.intro (More.trans H12.out.2.1 hm13) (And.intro (More.tab H12.out.2.2.1 hm13) (H12.out.2.2.2.more hm13))))
  obtain ⟨d0, d1, y0, y1⟩ := wcells2 (H13.out.2.2.2).mem
  have hS13 : w13.cell? ⟨w9.heap.size, 0, none⟩ = some (.string (bs (sl.drop t))) ∧ w13.cell? ⟨w9.heap.size, 1, none⟩ = some (.int .i64 G) := ⟨d0, d1⟩
  clear d0 d1 y0 y1
  have her := rd_err _ _ _ _ _ w13 H13.out.1
  clear hm13 H12 H11 H10 H8 H7 H6 H5 H4 H3 H2 H1
  refine wpAny_of_held (S := fun w' => w'.cell? ⟨w9.heap.size, 0, none⟩ = some (.string (bs (sl.drop t))) ∧ w'.cell? ⟨w9.heap.size, 1, none⟩ = some (.int .i64 G)) _ _ _ _ ?_
  refine wpAnyH_take (i := 0) (v := ?vb0) rfl (by kernel_rfl) (by kernel_rfl) (by kernel_rfl) (fun _ _ _ h => h) (Or.inl ⟨by rfl, ?yb0⟩) (by assumption) ?_
  case yb0 => intro wq hSw; (try dsimp only at hSw); (go_simp) <;> with_reducible rfl
  try simp only [Act.put, List.getElem_toArray, List.getElem_cons_zero, List.getElem_cons_succ, List.setIfInBounds_toArray, List.set_cons_zero, List.set_cons_succ]
  refine wpAnyH_take (i := 2) (v := ?vb2) rfl (by kernel_rfl) (by kernel_rfl) (by kernel_rfl) (fun _ _ _ h => h) (Or.inl ⟨by rfl, ?yb2⟩) (by assumption) ?_
  case yb2 => intro wq hSw; (try dsimp only at hSw); (go_simp) <;> with_reducible rfl
  try simp only [Act.put, List.getElem_toArray, List.getElem_cons_zero, List.getElem_cons_succ, List.setIfInBounds_toArray, List.set_cons_zero, List.set_cons_succ]
  refine wpAnyH_take (i := 3) (v := ?vb3) rfl (by kernel_rfl) (by kernel_rfl) (by kernel_rfl) (fun _ _ _ h => h) (Or.inl ⟨by rfl, ?yb3⟩) (by assumption) ?_
  case yb3 => intro wq hSw; (try dsimp only at hSw); (go_simp) <;> with_reducible rfl
  try simp only [Act.put, List.getElem_toArray, List.getElem_cons_zero, List.getElem_cons_succ, List.setIfInBounds_toArray, List.set_cons_zero, List.set_cons_succ]
  refine wpAnyH_take (i := 4) (v := ?vb4) rfl (by kernel_rfl) (by kernel_rfl) (by kernel_rfl) (fun _ _ _ h => h) (Or.inl ⟨by rfl, ?yb4⟩) (by assumption) ?_
  case yb4 => intro wq hSw; (try dsimp only at hSw); (go_simp) <;> with_reducible rfl
  try simp only [Act.put, List.getElem_toArray, List.getElem_cons_zero, List.getElem_cons_succ, List.setIfInBounds_toArray, List.set_cons_zero, List.set_cons_succ]
  refine wpAnyH_take (i := 5) (v := ?vb5) rfl (by kernel_rfl) (by kernel_rfl) (by kernel_rfl) (fun _ _ _ h => h) (Or.inl ⟨by rfl, ?yb5⟩) (by assumption) ?_
  case yb5 => intro wq hSw; (try dsimp only at hSw); (go_simp) <;> with_reducible rfl
  try simp only [Act.put, List.getElem_toArray, List.getElem_cons_zero, List.getElem_cons_succ, List.setIfInBounds_toArray, List.set_cons_zero, List.set_cons_succ]
  refine wpAnyH_ready (rs := [1]) (by kernel_rfl) (by simp) ?_
  refine AllReadyH.cons rfl (fun K1 hK1 => ?_) AllReadyH.nil
  go_simp
  go_wp2_with (go_at_call 16; refine her.mono ?_; rintro e w' ⟨rfl, hw⟩; subst w'; clear her)
  refine hK1.out _ _ hS13 (fun hHeld => ?_)
  clear hK1 K1 hHeld
  try simp only [Act.put, List.getElem_toArray, List.getElem_cons_zero, List.getElem_cons_succ, List.setIfInBounds_toArray, List.set_cons_zero, List.set_cons_succ]
  refine wpAnyH_take (i := 6) (v := ?vb6) rfl (by kernel_rfl) (by kernel_rfl) (by kernel_rfl) (fun _ _ _ h => h) (Or.inl ⟨by rfl, ?yb6⟩) (by assumption) ?_
  case yb6 => intro wq hSw; (try dsimp only at hSw); (go_simp) <;> with_reducible rfl
  try simp only [Act.put, List.getElem_toArray, List.getElem_cons_zero, List.getElem_cons_succ, List.setIfInBounds_toArray, List.set_cons_zero, List.set_cons_succ]
  refine wpAnyH_take (i := 7) (v := ?vb7) rfl (by kernel_rfl) (by kernel_rfl) (by kernel_rfl) (fun _ _ _ h => h) (Or.inl ⟨by rfl, ?yb7⟩) (by assumption) ?_
  case yb7 => intro wq hSw; (try dsimp only at hSw); (go_simp) <;> with_reducible rfl
  try simp only [Act.put, List.getElem_toArray, List.getElem_cons_zero, List.getElem_cons_succ, List.setIfInBounds_toArray, List.set_cons_zero, List.set_cons_succ]
  refine wpAnyH_take (i := 8) (v := ?vb8) rfl (by kernel_rfl) (by kernel_rfl) (by kernel_rfl) (fun _ _ _ h => h) (Or.inl ⟨by rfl, ?yb8⟩) (by assumption) ?_
  case yb8 => intro wq hSw; (try dsimp only at hSw); (go_simp) <;> with_reducible rfl
  try simp only [Act.put, List.getElem_toArray, List.getElem_cons_zero, List.getElem_cons_succ, List.setIfInBounds_toArray, List.set_cons_zero, List.set_cons_succ]
  refine wpAnyH_take (i := 9) (v := ?vb9) rfl (by kernel_rfl) (by kernel_rfl) (by kernel_rfl) (fun _ _ _ h => h) (Or.inl ⟨by rfl, ?yb9⟩) (by assumption) ?_
  case yb9 => intro wq hSw; (try dsimp only at hSw); (go_simp) <;> with_reducible rfl
  try simp only [Act.put, List.getElem_toArray, List.getElem_cons_zero, List.getElem_cons_succ, List.setIfInBounds_toArray, List.set_cons_zero, List.set_cons_succ]
  refine wpAnyH_take (i := 10) (v := ?vb10) rfl (by kernel_rfl) (by kernel_rfl) (by kernel_rfl) (fun _ _ _ h => h) (Or.inl ⟨by rfl, ?yb10⟩) (by assumption) ?_
  case yb10 => intro wq hSw; (try dsimp only at hSw); (go_simp) <;> with_reducible rfl
  try simp only [Act.put, List.getElem_toArray, List.getElem_cons_zero, List.getElem_cons_succ, List.setIfInBounds_toArray, List.set_cons_zero, List.set_cons_succ]
  refine wpAnyH_take (i := 11) (v := ?vb11) rfl (by kernel_rfl) (by kernel_rfl) (by kernel_rfl) (fun _ _ _ h => h) (Or.inl ⟨by rfl, ?yb11⟩) (by assumption) ?_
  case yb11 => intro wq hSw; (try dsimp only at hSw); (go_simp) <;> with_reducible rfl
  try simp only [Act.put, List.getElem_toArray, List.getElem_cons_zero, List.getElem_cons_succ, List.setIfInBounds_toArray, List.set_cons_zero, List.set_cons_succ]
  refine wpAnyH_take (i := 12) (v := .bool true) rfl (by kernel_rfl) (by kernel_rfl) (by kernel_rfl) (fun _ _ _ h => h) (Or.inl ⟨by rfl, ?yb12⟩) (by assumption) ?_
  case yb12 => intro wq hSw; (try dsimp only at hSw); (go_simp) <;> first | (with_reducible rfl) | (simp [hGi]; done) | (simp [hG0]; done)
  try simp only [Act.put, List.getElem_toArray, List.getElem_cons_zero, List.getElem_cons_succ, List.setIfInBounds_toArray, List.set_cons_zero, List.set_cons_succ]
  refine wpAnyH_take (i := 13) (v := ?vb13) rfl (by kernel_rfl) (by kernel_rfl) (by kernel_rfl) (fun _ _ _ h => h) (Or.inl ⟨by rfl, ?yb13⟩) (by assumption) ?_
  case yb13 => intro wq hSw; (try dsimp only at hSw); (go_simp) <;> with_reducible rfl
  try simp only [Act.put, List.getElem_toArray, List.getElem_cons_zero, List.getElem_cons_succ, List.setIfInBounds_toArray, List.set_cons_zero, List.set_cons_succ]
  refine wpAnyH_take (i := 14) (v := ?vb14) rfl (by kernel_rfl) (by kernel_rfl) (by kernel_rfl) (fun _ _ _ h => h) (Or.inl ⟨by rfl, ?yb14⟩) (by assumption) ?_
  case yb14 => intro wq hSw; (try dsimp only at hSw); (go_simp) <;> with_reducible rfl
  try simp only [Act.put, List.getElem_toArray, List.getElem_cons_zero, List.getElem_cons_succ, List.setIfInBounds_toArray, List.set_cons_zero, List.set_cons_succ]
  refine wpAnyH_take (i := 15) (v := ?vb15) rfl (by kernel_rfl) (by kernel_rfl) (by kernel_rfl) (fun _ _ _ h => h) (Or.inl ⟨by rfl, ?yb15⟩) (by assumption) ?_
  case yb15 => intro wq hSw; (try dsimp only at hSw); (go_simp) <;> with_reducible rfl
  try simp only [Act.put, List.getElem_toArray, List.getElem_cons_zero, List.getElem_cons_succ, List.setIfInBounds_toArray, List.set_cons_zero, List.set_cons_succ]
  refine wpAnyH_take (i := 16) (v := ?vb16) rfl (by kernel_rfl) (by kernel_rfl) (by kernel_rfl) (fun _ _ _ h => h) (Or.inl ⟨by rfl, ?yb16⟩) (by assumption) ?_
  case yb16 => intro wq hSw; (try dsimp only at hSw); (go_simp) <;> with_reducible rfl
  try simp only [Act.put, List.getElem_toArray, List.getElem_cons_zero, List.getElem_cons_succ, List.setIfInBounds_toArray, List.set_cons_zero, List.set_cons_succ]
  refine wpAnyH_take (i := 17) (v := ?vb17) rfl (by kernel_rfl) (by kernel_rfl) (by kernel_rfl) (fun _ _ _ h => h) (Or.inl ⟨by rfl, ?yb17⟩) (by assumption) ?_
  case yb17 => intro wq hSw; (try dsimp only at hSw); (go_simp) <;> with_reducible rfl
  try simp only [Act.put, List.getElem_toArray, List.getElem_cons_zero, List.getElem_cons_succ, List.setIfInBounds_toArray, List.set_cons_zero, List.set_cons_succ]
  refine wpAnyH_done (by kernel_rfl) ?_ _
  go_wp2
  refine wp_region_any (by kernel_rfl) ?_
  change wpAny _ _ _ _ _ _ _ (World.drew _)
  obtain ⟨w14, hw14⟩ : ∃ w14, World.drew w13 = w14 := ⟨_, rfl⟩
  rw [hw14]
  have hm14 : More w13 w14 := by rw [← hw14]; exact More.drew _
  clear hw14
  have H14 := Hid.mk (And.intro (H13.out.1.more hm14) (And.intro (More.trans H13.out.2.1 hm14) (And.intro (More.tab H13.out.2.2.1 hm14) (H13.out.2.2.2.more hm14))))
  obtain ⟨d0, d1, y0, y1⟩ := wcells2 (H14.out.2.2.2).mem
  have hS14 : w14.cell? ⟨w9.heap.size, 0, none⟩ = some (.string (bs (sl.drop t))) ∧ w14.cell? ⟨w9.heap.size, 1, none⟩ = some (.int .i64 G) := ⟨d0, d1⟩
  clear d0 d1 y0 y1
  have hlv := sb_live w14 H14.out.2.2.1
  clear hm14 H13 hS13
  refine wpAny_of_held (S := fun w' => w'.cell? ⟨w9.heap.size, 0, none⟩ = some (.string (bs (sl.drop t))) ∧ w'.cell? ⟨w9.heap.size, 1, none⟩ = some (.int .i64 G)) _ _ _ _ ?_
  refine wpAnyH_take (i := 0) (v := ?vc0) rfl (by kernel_rfl) (by kernel_rfl) (by kernel_rfl) (fun _ _ _ h => h) (Or.inl ⟨by rfl, ?yc0⟩) (by assumption) ?_
  case yc0 => intro wq hSw; (try dsimp only at hSw); (go_simp) <;> with_reducible rfl
  try simp only [Act.put, List.getElem_toArray, List.getElem_cons_zero, List.getElem_cons_succ, List.setIfInBounds_toArray, List.set_cons_zero, List.set_cons_succ]
  refine wpAnyH_take (i := 1) (v := ?vc1) rfl (by kernel_rfl) (by kernel_rfl) (by kernel_rfl) (fun _ _ _ h => h) (Or.inl ⟨by rfl, ?yc1⟩) (by assumption) ?_
  case yc1 => intro wq hSw; (try dsimp only at hSw); (go_simp) <;> with_reducible rfl
  try simp only [Act.put, List.getElem_toArray, List.getElem_cons_zero, List.getElem_cons_succ, List.setIfInBounds_toArray, List.set_cons_zero, List.set_cons_succ]
  refine wpAnyH_take (i := 2) (v := ?vc2) rfl (by kernel_rfl) (by kernel_rfl) (by kernel_rfl) (fun _ _ _ h => h) (Or.inl ⟨by rfl, ?yc2⟩) (by assumption) ?_
  case yc2 => intro wq hSw; (try dsimp only at hSw); (go_simp) <;> with_reducible rfl
  try simp only [Act.put, List.getElem_toArray, List.getElem_cons_zero, List.getElem_cons_succ, List.setIfInBounds_toArray, List.set_cons_zero, List.set_cons_succ]
  refine wpAnyH_take (i := 3) (v := ?vc3) rfl (by kernel_rfl) (by kernel_rfl) (by kernel_rfl) (fun _ _ _ h => h) (Or.inl ⟨by rfl, ?yc3⟩) (by assumption) ?_
  case yc3 => intro wq hSw; (try dsimp only at hSw); (go_simp) <;> with_reducible rfl
  try simp only [Act.put, List.getElem_toArray, List.getElem_cons_zero, List.getElem_cons_succ, List.setIfInBounds_toArray, List.set_cons_zero, List.set_cons_succ]
  refine wpAnyH_take (i := 4) (v := .bool true) rfl (by kernel_rfl) (by kernel_rfl) (by kernel_rfl) (fun _ _ _ h => h) (Or.inl ⟨by rfl, ?yc4⟩) (by assumption) ?_
  case yc4 => intro wq hSw; (try dsimp only at hSw); (go_simp) <;> first | (with_reducible rfl) | (simp [hGi]; done) | (simp [hG0]; done)
  try simp only [Act.put, List.getElem_toArray, List.getElem_cons_zero, List.getElem_cons_succ, List.setIfInBounds_toArray, List.set_cons_zero, List.set_cons_succ]
  refine wpAnyH_take (i := 5) (v := ?vc5) rfl (by kernel_rfl) (by kernel_rfl) (by kernel_rfl) (fun _ _ _ h => h) (Or.inl ⟨by rfl, ?yc5⟩) (by assumption) ?_
  case yc5 => intro wq hSw; (try dsimp only at hSw); (go_simp) <;> with_reducible rfl
  try simp only [Act.put, List.getElem_toArray, List.getElem_cons_zero, List.getElem_cons_succ, List.setIfInBounds_toArray, List.set_cons_zero, List.set_cons_succ]
  refine wpAnyH_take (i := 6) (v := undef) rfl (by kernel_rfl) (by kernel_rfl) (by kernel_rfl) (fun _ _ _ h => h) (Or.inr ⟨by rfl, rfl⟩) (by assumption) ?_
  try simp only [Act.put, List.getElem_toArray, List.getElem_cons_zero, List.getElem_cons_succ, List.setIfInBounds_toArray, List.set_cons_zero, List.set_cons_succ]
  refine wpAnyH_take (i := 7) (v := undef) rfl (by kernel_rfl) (by kernel_rfl) (by kernel_rfl) (fun _ _ _ h => h) (Or.inr ⟨by rfl, rfl⟩) (by assumption) ?_
  try simp only [Act.put, List.getElem_toArray, List.getElem_cons_zero, List.getElem_cons_succ, List.setIfInBounds_toArray, List.set_cons_zero, List.set_cons_succ]
  refine wpAnyH_take (i := 8) (v := undef) rfl (by kernel_rfl) (by kernel_rfl) (by kernel_rfl) (fun _ _ _ h => h) (Or.inr ⟨by rfl, rfl⟩) (by assumption) ?_
  try simp only [Act.put, List.getElem_toArray, List.getElem_cons_zero, List.getElem_cons_succ, List.setIfInBounds_toArray, List.set_cons_zero, List.set_cons_succ]
  refine wpAnyH_take (i := 9) (v := undef) rfl (by kernel_rfl) (by kernel_rfl) (by kernel_rfl) (fun _ _ _ h => h) (Or.inr ⟨by rfl, rfl⟩) (by assumption) ?_
  try simp only [Act.put, List.getElem_toArray, List.getElem_cons_zero, List.getElem_cons_succ, List.setIfInBounds_toArray, List.set_cons_zero, List.set_cons_succ]
  refine wpAnyH_take (i := 10) (v := undef) rfl (by kernel_rfl) (by kernel_rfl) (by kernel_rfl) (fun _ _ _ h => h) (Or.inr ⟨by rfl, rfl⟩) (by assumption) ?_
  try simp only [Act.put, List.getElem_toArray, List.getElem_cons_zero, List.getElem_cons_succ, List.setIfInBounds_toArray, List.set_cons_zero, List.set_cons_succ]
  refine wpAnyH_take (i := 11) (v := undef) rfl (by kernel_rfl) (by kernel_rfl) (by kernel_rfl) (fun _ _ _ h => h) (Or.inr ⟨by rfl, rfl⟩) (by assumption) ?_
  try simp only [Act.put, List.getElem_toArray, List.getElem_cons_zero, List.getElem_cons_succ, List.setIfInBounds_toArray, List.set_cons_zero, List.set_cons_succ]
  refine wpAnyH_take (i := 12) (v := undef) rfl (by kernel_rfl) (by kernel_rfl) (by kernel_rfl) (fun _ _ _ h => h) (Or.inr ⟨by rfl, rfl⟩) (by assumption) ?_
  try simp only [Act.put, List.getElem_toArray, List.getElem_cons_zero, List.getElem_cons_succ, List.setIfInBounds_toArray, List.set_cons_zero, List.set_cons_succ]
  refine wpAnyH_take (i := 13) (v := undef) rfl (by kernel_rfl) (by kernel_rfl) (by kernel_rfl) (fun _ _ _ h => h) (Or.inr ⟨by rfl, rfl⟩) (by assumption) ?_
  try simp only [Act.put, List.getElem_toArray, List.getElem_cons_zero, List.getElem_cons_succ, List.setIfInBounds_toArray, List.set_cons_zero, List.set_cons_succ]
  refine wpAnyH_take (i := 14) (v := undef) rfl (by kernel_rfl) (by kernel_rfl) (by kernel_rfl) (fun _ _ _ h => h) (Or.inr ⟨by rfl, rfl⟩) (by assumption) ?_
  try simp only [Act.put, List.getElem_toArray, List.getElem_cons_zero, List.getElem_cons_succ, List.setIfInBounds_toArray, List.set_cons_zero, List.set_cons_succ]
  refine wpAnyH_take (i := 15) (v := undef) rfl (by kernel_rfl) (by kernel_rfl) (by kernel_rfl) (fun _ _ _ h => h) (Or.inr ⟨by rfl, rfl⟩) (by assumption) ?_
  try simp only [Act.put, List.getElem_toArray, List.getElem_cons_zero, List.getElem_cons_succ, List.setIfInBounds_toArray, List.set_cons_zero, List.set_cons_succ]
  refine wpAnyH_take (i := 16) (v := undef) rfl (by kernel_rfl) (by kernel_rfl) (by kernel_rfl) (fun _ _ _ h => h) (Or.inr ⟨by rfl, rfl⟩) (by assumption) ?_
  try simp only [Act.put, List.getElem_toArray, List.getElem_cons_zero, List.getElem_cons_succ, List.setIfInBounds_toArray, List.set_cons_zero, List.set_cons_succ]
  refine wpAnyH_take (i := 17) (v := undef) rfl (by kernel_rfl) (by kernel_rfl) (by kernel_rfl) (fun _ _ _ h => h) (Or.inr ⟨by rfl, rfl⟩) (by assumption) ?_
  try simp only [Act.put, List.getElem_toArray, List.getElem_cons_zero, List.getElem_cons_succ, List.setIfInBounds_toArray, List.set_cons_zero, List.set_cons_succ]
  refine wpAnyH_take (i := 18) (v := undef) rfl (by kernel_rfl) (by kernel_rfl) (by kernel_rfl) (fun _ _ _ h => h) (Or.inr ⟨by rfl, rfl⟩) (by assumption) ?_
  try simp only [Act.put, List.getElem_toArray, List.getElem_cons_zero, List.getElem_cons_succ, List.setIfInBounds_toArray, List.set_cons_zero, List.set_cons_succ]
  refine wpAnyH_take (i := 19) (v := undef) rfl (by kernel_rfl) (by kernel_rfl) (by kernel_rfl) (fun _ _ _ h => h) (Or.inr ⟨by rfl, rfl⟩) (by assumption) ?_
  try simp only [Act.put, List.getElem_toArray, List.getElem_cons_zero, List.getElem_cons_succ, List.setIfInBounds_toArray, List.set_cons_zero, List.set_cons_succ]
  refine wpAnyH_take (i := 20) (v := undef) rfl (by kernel_rfl) (by kernel_rfl) (by kernel_rfl) (fun _ _ _ h => h) (Or.inr ⟨by rfl, rfl⟩) (by assumption) ?_
  try simp only [Act.put, List.getElem_toArray, List.getElem_cons_zero, List.getElem_cons_succ, List.setIfInBounds_toArray, List.set_cons_zero, List.set_cons_succ]
  refine wpAnyH_take (i := 21) (v := undef) rfl (by kernel_rfl) (by kernel_rfl) (by kernel_rfl) (fun _ _ _ h => h) (Or.inr ⟨by rfl, rfl⟩) (by assumption) ?_
  try simp only [Act.put, List.getElem_toArray, List.getElem_cons_zero, List.getElem_cons_succ, List.setIfInBounds_toArray, List.set_cons_zero, List.set_cons_succ]
  refine wpAnyH_take (i := 22) (v := undef) rfl (by kernel_rfl) (by kernel_rfl) (by kernel_rfl) (fun _ _ _ h => h) (Or.inr ⟨by rfl, rfl⟩) (by assumption) ?_
  try simp only [Act.put, List.getElem_toArray, List.getElem_cons_zero, List.getElem_cons_succ, List.setIfInBounds_toArray, List.set_cons_zero, List.set_cons_succ]
  refine wpAnyH_take (i := 23) (v := undef) rfl (by kernel_rfl) (by kernel_rfl) (by kernel_rfl) (fun _ _ _ h => h) (Or.inr ⟨by rfl, rfl⟩) (by assumption) ?_
  try simp only [Act.put, List.getElem_toArray, List.getElem_cons_zero, List.getElem_cons_succ, List.setIfInBounds_toArray, List.set_cons_zero, List.set_cons_succ]
  refine wpAnyH_take (i := 24) (v := undef) rfl (by kernel_rfl) (by kernel_rfl) (by kernel_rfl) (fun _ _ _ h => h) (Or.inr ⟨by rfl, rfl⟩) (by assumption) ?_
  try simp only [Act.put, List.getElem_toArray, List.getElem_cons_zero, List.getElem_cons_succ, List.setIfInBounds_toArray, List.set_cons_zero, List.set_cons_succ]
  refine wpAnyH_take (i := 25) (v := undef) rfl (by kernel_rfl) (by kernel_rfl) (by kernel_rfl) (fun _ _ _ h => h) (Or.inr ⟨by rfl, rfl⟩) (by assumption) ?_
  try simp only [Act.put, List.getElem_toArray, List.getElem_cons_zero, List.getElem_cons_succ, List.setIfInBounds_toArray, List.set_cons_zero, List.set_cons_succ]
  refine wpAnyH_take (i := 26) (v := undef) rfl (by kernel_rfl) (by kernel_rfl) (by kernel_rfl) (fun _ _ _ h => h) (Or.inr ⟨by rfl, rfl⟩) (by assumption) ?_
  try simp only [Act.put, List.getElem_toArray, List.getElem_cons_zero, List.getElem_cons_succ, List.setIfInBounds_toArray, List.set_cons_zero, List.set_cons_succ]
  refine wpAnyH_take (i := 27) (v := undef) rfl (by kernel_rfl) (by kernel_rfl) (by kernel_rfl) (fun _ _ _ h => h) (Or.inr ⟨by rfl, rfl⟩) (by assumption) ?_
  try simp only [Act.put, List.getElem_toArray, List.getElem_cons_zero, List.getElem_cons_succ, List.setIfInBounds_toArray, List.set_cons_zero, List.set_cons_succ]
  refine wpAnyH_take (i := 28) (v := undef) rfl (by kernel_rfl) (by kernel_rfl) (by kernel_rfl) (fun _ _ _ h => h) (Or.inr ⟨by rfl, rfl⟩) (by assumption) ?_
  try simp only [Act.put, List.getElem_toArray, List.getElem_cons_zero, List.getElem_cons_succ, List.setIfInBounds_toArray, List.set_cons_zero, List.set_cons_succ]
  refine wpAnyH_take (i := 29) (v := undef) rfl (by kernel_rfl) (by kernel_rfl) (by kernel_rfl) (fun _ _ _ h => h) (Or.inr ⟨by rfl, rfl⟩) (by assumption) ?_
  try simp only [Act.put, List.getElem_toArray, List.getElem_cons_zero, List.getElem_cons_succ, List.setIfInBounds_toArray, List.set_cons_zero, List.set_cons_succ]
  refine wpAnyH_take (i := 30) (v := undef) rfl (by kernel_rfl) (by kernel_rfl) (by kernel_rfl) (fun _ _ _ h => h) (Or.inr ⟨by rfl, rfl⟩) (by assumption) ?_
  try simp only [Act.put, List.getElem_toArray, List.getElem_cons_zero, List.getElem_cons_succ, List.setIfInBounds_toArray, List.set_cons_zero, List.set_cons_succ]
  refine wpAnyH_take (i := 31) (v := undef) rfl (by kernel_rfl) (by kernel_rfl) (by kernel_rfl) (fun _ _ _ h => h) (Or.inr ⟨by rfl, rfl⟩) (by assumption) ?_
  try simp only [Act.put, List.getElem_toArray, List.getElem_cons_zero, List.getElem_cons_succ, List.setIfInBounds_toArray, List.set_cons_zero, List.set_cons_succ]
  refine wpAnyH_take (i := 32) (v := undef) rfl (by kernel_rfl) (by kernel_rfl) (by kernel_rfl) (fun _ _ _ h => h) (Or.inr ⟨by rfl, rfl⟩) (by assumption) ?_
  try simp only [Act.put, List.getElem_toArray, List.getElem_cons_zero, List.getElem_cons_succ, List.setIfInBounds_toArray, List.set_cons_zero, List.set_cons_succ]
  refine wpAnyH_take (i := 33) (v := undef) rfl (by kernel_rfl) (by kernel_rfl) (by kernel_rfl) (fun _ _ _ h => h) (Or.inr ⟨by rfl, rfl⟩) (by assumption) ?_
  try simp only [Act.put, List.getElem_toArray, List.getElem_cons_zero, List.getElem_cons_succ, List.setIfInBounds_toArray, List.set_cons_zero, List.set_cons_succ]
  refine wpAnyH_take (i := 34) (v := undef) rfl (by kernel_rfl) (by kernel_rfl) (by kernel_rfl) (fun _ _ _ h => h) (Or.inr ⟨by rfl, rfl⟩) (by assumption) ?_
  try simp only [Act.put, List.getElem_toArray, List.getElem_cons_zero, List.getElem_cons_succ, List.setIfInBounds_toArray, List.set_cons_zero, List.set_cons_succ]
  refine wpAnyH_take (i := 35) (v := ?vc35) rfl (by kernel_rfl) (by kernel_rfl) (by kernel_rfl) (fun _ _ _ h => h) (Or.inl ⟨by rfl, ?yc35⟩) (by assumption) ?_
  case yc35 => intro wq hSw; (try dsimp only at hSw); (go_simp) <;> with_reducible rfl
  try simp only [Act.put, List.getElem_toArray, List.getElem_cons_zero, List.getElem_cons_succ, List.setIfInBounds_toArray, List.set_cons_zero, List.set_cons_succ]
  refine wpAnyH_take (i := 36) (v := ?vc36) rfl (by kernel_rfl) (by kernel_rfl) (by kernel_rfl) (fun _ _ _ h => h) (Or.inl ⟨by rfl, ?yc36⟩) (by assumption) ?_
  case yc36 => intro wq hSw; (try dsimp only at hSw); (go_simp) <;> with_reducible rfl
  try simp only [Act.put, List.getElem_toArray, List.getElem_cons_zero, List.getElem_cons_succ, List.setIfInBounds_toArray, List.set_cons_zero, List.set_cons_succ]
  refine wpAnyH_ready (rs := [37]) (by kernel_rfl) (by simp) ?_
  refine AllReadyH.cons rfl (fun K37 hK37 => ?_) AllReadyH.nil
  go_simp
  go_wp2_with (go_at_call 7; refine hlv.mono ?_; rintro e w15 ⟨rfl, hm15⟩; have H15 := Hid.mk (And.intro (H14.out.1.more hm15) (And.intro (More.trans H14.out.2.1 hm15) (And.intro (More.tab H14.out.2.2.1 hm15) (H14.out.2.2.2.more hm15)))); obtain ⟨d0, d1, y0, y1⟩ := wcells2 (H15.out.2.2.2).mem; have hS15 : w15.cell? ⟨w9.heap.size, 0, none⟩ = some (.string (bs (sl.drop t))) ∧ w15.cell? ⟨w9.heap.size, 1, none⟩ = some (.int .i64 G) := ⟨d0, d1⟩; clear d0 d1 y0 y1; clear hm15 hlv)
  refine hK37.out _ _ hS15 (fun hHeld => ?_)
  clear hK37 K37 hHeld
  try simp only [Act.put, List.getElem_toArray, List.getElem_cons_zero, List.getElem_cons_succ, List.setIfInBounds_toArray, List.set_cons_zero, List.set_cons_succ]
  refine wpAnyH_take (i := 38) (v := ?vc38) rfl (by kernel_rfl) (by kernel_rfl) (by kernel_rfl) (fun _ _ _ h => h) (Or.inl ⟨by rfl, ?yc38⟩) (by assumption) ?_
  case yc38 => intro wq hSw; (try dsimp only at hSw); (go_simp) <;> with_reducible rfl
  try simp only [Act.put, List.getElem_toArray, List.getElem_cons_zero, List.getElem_cons_succ, List.setIfInBounds_toArray, List.set_cons_zero, List.set_cons_succ]
  refine wpAnyH_take (i := 39) (v := ?vc39) rfl (by kernel_rfl) (by kernel_rfl) (by kernel_rfl) (fun _ _ _ h => h) (Or.inl ⟨by rfl, ?yc39⟩) (by assumption) ?_
  case yc39 => intro wq hSw; (try dsimp only at hSw); (go_simp) <;> with_reducible rfl
  try simp only [Act.put, List.getElem_toArray, List.getElem_cons_zero, List.getElem_cons_succ, List.setIfInBounds_toArray, List.set_cons_zero, List.set_cons_succ]
  refine wpAnyH_done (by kernel_rfl) ?_ _
  go_wp2
  go_ret
  exact ⟨rfl, H15.out.2.1⟩

set_option linter.unusedSimpArgs false in
set_option maxHeartbeats 12800000 in
set_option maxRecDepth 1000000 in
theorem sb_packs_good (v : Value) (K : Nat) (f : Nat → Nat) (sl : List UInt8) (w : World) (h : Rd w v K f) (hf : ∀ j, j < K → f j < 18446744073709551616) (hT : TabIn w) (hK : K ≤ 40) (hsl : sl.length ≤ 200) (d n t1 er1 t2 er2 t3 : Nat) (u : List UInt8) (hR : ReadsP sl 0 d n u t1 er1 t2 er2 t3 0) (hgd : ofB u < 2 ^ (d * n)) :
    Calls Tryd.prog 4 #[v, .string (bs sl)] w fun e w' => e = .returned (.bool true) ∧ More w w' := by
  have hsz : (bs sl).size = sl.length := bs_size sl
  have hD := wid_le64 f K hf
  have hfi := fits f K (wid f K) hf (Nat.le_refl _)
  have hVl := packV_lt (wid f K) f K hfi
  have hfit := pack_fit v K f (w.alloc (.cells #[.slice none 0 0] 31)) (Rd.more h (More.alloc _ _)) hf (by omega)
  have hwid := fun (w' : World) (hm : More w w') => refp_width v K f w' (Rd.more h hm) hf (by omega)
  have hrp := fun (w' : World) (hm : More w w') => rsb_pack v K (wid f K) f w' (Rd.more h hm) hfi hD (by omega)
  have hkw := fun (w' : World) (hm : More w w') => refp_words v K (wid f K) f w' (Rd.more h hm) hfi hD (by omega)
  obtain ⟨D, hDe⟩ : ∃ D, wid f K = D := ⟨_, rfl⟩
  rw [hDe] at hD hfi hVl hfit
  simp only [hDe] at hwid hrp hkw
  obtain ⟨PV, hPV⟩ : ∃ PV, packV D f K = PV := ⟨_, rfl⟩
  rw [hPV] at hVl hfit
  simp only [hPV] at hrp hkw
  have hput := fun base wb base' p (w' : World) (h1 : WrAt w' base wb []) (h2 : PackAt w' base' p PV D K) => sb_putPack base wb base' p PV D K [] w' h1 h2 (by omega) (by decide)
  simp only [List.nil_append] at hput
  have hgp := fun base b (w' : World) (h1 : RdAt w' base b ((num D ++ (num K ++ rby PV (D * K))) ++ sl) 0 0) => getPack_good base b 0 0 D K _ 0 _ 0 _ _ _ w' h1 (by rw [List.drop_zero]; exact readsP_back D K PV hD (by omega) sl) (by rw [ofB_rby hVl]; exact hVl)
  simp only [ofB_rby hVl, Nat.zero_add] at hgp
  have hDK : D * K ≤ 2560 := Nat.mul_le_mul hD hK
  have hL1 := (num_ten (v := D) (by omega)).1
  have hL2 := (num_ten (v := K) (by omega)).1
  have hLl : (num D ++ (num K ++ rby PV (D * K))).length = (num D).length + (num K).length + nby (D * K) := by simp only [List.length_append, rby_len]; omega
  rw [← hLl] at hgp
  have hLb : (num D ++ (num K ++ rby PV (D * K))).length ≤ 1000 := by rw [hLl, nby_is]; omega
  obtain ⟨L, hL⟩ : ∃ L, num D ++ (num K ++ rby PV (D * K)) = L := ⟨_, rfl⟩
  rw [hL] at hLb
  simp only [hL] at hgp hput hrp
  have hadd1 := fun w => add_sum L sl (by omega) w
  have hop1 := fun w => rd_open (L ++ sl) (by rw [List.length_append]; omega) w
  have hdl1 : Hid (((L ++ sl).drop L.length).length = sl.length) := Hid.mk (by rw [List.drop_left])
  obtain ⟨Z, hZ⟩ : ∃ Z, L ++ sl = Z := ⟨_, rfl⟩
  rw [hZ] at hdl1
  simp only [hZ] at hop1 hadd1 hgp
  have hopen := fun w => rd_open sl (by omega) w
  obtain ⟨ao, cap, rfl⟩ := h.shape
  have HT := Hid.mk hT
  have hdoc := fun (w' : World) => docPack_good _ _ 0 d n t1 er1 t2 er2 t3 u sl _ (xp_new w' sl (by omega)) hR hgd
  have hget := fun base b (w' : World) (h1 : RdAt w' base b sl 0 0) => getPack_good base b 0 0 d n t1 er1 t2 er2 t3 u sl w' h1 (by rw [List.drop_zero]; exact hR) hgd
  have hd64 : d ≤ 64 := by have := st_bnd hR.one; omega
  have hn20 : n ≤ 1048576 := by have := st_bnd hR.two; omega
  have hdn : d * n ≤ 67108864 := Nat.mul_le_mul hd64 hn20
  obtain ⟨t, ht⟩ : ∃ t, t1 + t2 + t3 = t := ⟨_, rfl⟩
  obtain ⟨U, hU⟩ : ∃ U, ofB u = U := ⟨_, rfl⟩
  simp only [hU, ht, Nat.zero_add] at hget hdoc
  rw [hU] at hgd
  obtain ⟨M, hM⟩ : ∃ M, sl.length = M := ⟨_, rfl⟩
  obtain ⟨M2, hM2⟩ : ∃ M2, (sl.drop t).length = M2 := ⟨_, rfl⟩
  have hdz : (bs (sl.drop t)).size = M2 := by rw [bs_size, hM2]
  have hM3 : M2 ≤ 200 := by rw [← hM2, List.length_drop]; omega
  rw [hM] at hsz hsl
  have HG := Hid.mk (And.intro hgd hM2)
  clear hR hgd hU ht hM2 hDe hPV hLl hLb hL hZ hL1 hL2 hVl hfi hf h hT
  go_enter Tryd.func4, Tryd.ntmps4
  go_wp2_with (first
    | (go_at_call 23; refine hfit.mono ?_; rintro e w1 ⟨p, rfl, hp1, hm1⟩; have hpu := hput w.heap.size w.heap.size _ p w1 ((WrAt.new w).more hm1) hp1; have H1 := Hid.mk (More.trans (More.alloc w _) hm1); clear hp1 hm1 hfit hput)
    | (go_at_call 22; refine hpu.mono ?_; rintro e w2 ⟨rfl, hw2, hk2⟩; have hm2 : More w w2 := Below.trans H1.out hk2.below; have hby2 := wr_bytes _ _ _ w2 hw2; have hrp2 := hrp w2 hm2; have hwi2 := hwid w2 hm2; have H2 := Hid.mk (And.intro hw2 hm2); clear hw2 hk2 hm2 hpu hrp)
    | (go_at_call 11; refine hby2.mono ?_; rintro e w' ⟨rfl, hw⟩; subst w'; clear hby2)
    | (go_at_call 25; refine hwi2.mono ?_; rintro e w' ⟨rfl, hw⟩; subst w'; clear hwi2)
    | (go_at_call 24; refine hrp2.mono ?_; rintro e w3 ⟨rfl, hm3⟩; have hby3 := wr_bytes _ _ _ w3 (H2.out.1.more hm3); have H3 := Hid.mk (More.trans H2.out.2 hm3); clear hm3 hrp2)
    | (go_at_call 11; refine hby3.mono ?_; rintro e w' ⟨rfl, hw⟩; subst w'; clear hby3)
    | (go_at_call 10; refine (hop1 w3).mono ?_; rintro e w4 ⟨rfl, hr4, hm4⟩; have hgp4 := hgp w3.heap.size w3.heap.size w4 hr4; have H4 := Hid.mk hm4; clear hr4 hm4 hop1 hgp)
    | (go_at_call 26; refine hgp4.mono ?_; rintro e w5 ⟨p5, rfl, hp5, hr5, hk5⟩; have hm5 : More w w5 := More.trans H3.out (Below.trans H4.out hk5.below); have hln5 := pack_len p5 PV D K w5 hp5.rd; have hpw5 := pack_width p5 PV D K w5 hp5.rd; have hwi5 := hwid w5 hm5; have hle5 := rd_left _ _ _ _ _ w5 hr5; rw [hdl1.out] at hle5; have H5 := Hid.mk (And.intro hp5 hm5); clear hp5 hr5 hk5 hm5 hgp4)
    | (go_at_call 27; refine hln5.mono ?_; rintro e w' ⟨rfl, hw⟩; subst w'; clear hln5)
    | (go_at_call 28; refine hpw5.mono ?_; rintro e w' ⟨rfl, hw⟩; subst w'; clear hpw5)
    | (go_at_call 25; refine hwi5.mono ?_; rintro e w' ⟨rfl, hw⟩; subst w'; clear hwi5)
    | (go_at_call 15; refine hle5.mono ?_; rintro e w6 ⟨rfl, m6, hw6⟩; have hm6 : More w5 w6 := (by rw [hw6]; exact More.drewN w5 m6); have hwo6 := pack_words _ p5 PV D K w6 (H5.out.1.more hm6); have H6 := Hid.mk (More.trans H5.out.2 hm6); clear hw6 hm6 hle5)
    | (go_at_call 29; refine hwo6.mono ?_; rintro e w7 ⟨v7, rfl, ho7, hm7⟩; obtain ⟨a7, c7, rfl⟩ := shape_of ho7; have hm07 := More.trans H6.out hm7; have hwi7 := hwid w7 hm07; have hkw7 := hkw w7 hm07; have H7 := Hid.mk (And.intro ho7 hm07); clear ho7 hm7 hm07 hwo6 hwid hkw)
    | (go_at_call 25; refine hwi7.mono ?_; rintro e w' ⟨rfl, hw⟩; subst w'; clear hwi7)
    | (go_at_call 30; refine hkw7.mono ?_; rintro e w8 ⟨v8, rfl, ho8, hm8⟩; obtain ⟨a8, c8, rfl⟩ := shape_of ho8; have hsm8 := same_as _ _ (nw (D * K)) (wd PV) w8 (rd_of_own (More.own H7.out.1 hm8)) (rd_of_own ho8) (by unfold nw; omega); have H8 := Hid.mk (More.trans H7.out.2 hm8); clear ho8 hm8 hkw7)
    | (go_at_call 19; refine hsm8.mono ?_; rintro e w9 ⟨rfl, m9, hw9⟩; have hm9 : More w w9 := (by rw [hw9]; exact More.trans H8.out (More.drewN w8 m9)); have hdoc9 := hdoc w9; have H9 := Hid.mk (And.intro hm9 (More.tab HT.out hm9)); clear hw9 hm9 hsm8 hdoc)
    | (go_at_call 31; refine hdoc9.mono ?_; rintro e w10 ⟨s10, rfl, ho10, hx10, hk10⟩; obtain ⟨a10, c10, rfl⟩ := shape_of ho10; have hm10 : More w9 w10 := Below.trans (More.alloc w9 _) hk10.below; have H10 := Hid.mk (And.intro hx10 (And.intro (More.trans H9.out.1 hm10) (And.intro (More.tab H9.out.2 hm10) ho10))); clear hx10 hk10 hm10 hdoc9 ho10)
    | (go_at_call 10; refine (hopen w10).mono ?_; rintro e w11 ⟨rfl, hr11, hm11⟩; have hgt11 := hget w10.heap.size w10.heap.size w11 hr11; have H11 := Hid.mk hm11; clear hr11 hm11 hopen hget)
    | (go_at_call 26; refine hgt11.mono ?_; rintro e w12 ⟨p12, rfl, hp12, hr12, hk12⟩; have hm12 : More w10 w12 := Below.trans H11.out hk12.below; have H12 := Hid.mk (And.intro hr12 (And.intro (More.trans H10.out.2.1 hm12) (And.intro (More.tab H10.out.2.2.1 hm12) (And.intro (H10.out.1.more hm12) (And.intro hp12 (More.own H10.out.2.2.2 hm12)))))); clear hr12 hk12 hm12 hgt11 hp12))
  refine wp_region_any (by kernel_rfl) ?_
  change wpAny _ _ _ _ _ _ _ (World.drew _)
  obtain ⟨w13, hw13⟩ : ∃ w13, World.drew w12 = w13 := ⟨_, rfl⟩
  rw [hw13]
  have hm13 : More w12 w13 := by rw [← hw13]; exact More.drew _
  clear hw13
  have H13 := Hid.mk (And.intro (H12.out.1.more hm13) (And.intro (More.trans H12.out.2.1 hm13) (And.intro (More.tab H12.out.2.2.1 hm13) (And.intro (H12.out.2.2.2.1.more hm13) (And.intro (H12.out.2.2.2.2.1.more hm13) (More.own H12.out.2.2.2.2.2 hm13))))))
  obtain ⟨d0, d1, y0, y1⟩ := wcells2 (H13.out.2.2.2.1).mem
  have hS13 : w13.cell? ⟨w9.heap.size, 0, none⟩ = some (.string (bs (sl.drop t))) ∧ w13.cell? ⟨w9.heap.size, 1, none⟩ = some (.int .i64 (0 : Nat)) := ⟨d0, d1⟩
  clear d0 d1 y0 y1
  have her := rd_err _ _ _ _ _ w13 H13.out.1
  clear hm13 H12 H11 H10 H8 H7 H6 H5 H4 H3 H2 H1
  refine wpAny_of_held (S := fun w' => w'.cell? ⟨w9.heap.size, 0, none⟩ = some (.string (bs (sl.drop t))) ∧ w'.cell? ⟨w9.heap.size, 1, none⟩ = some (.int .i64 (0 : Nat))) _ _ _ _ ?_
  refine wpAnyH_take (i := 0) (v := ?vg0) rfl (by kernel_rfl) (by kernel_rfl) (by kernel_rfl) (fun _ _ _ h => h) (Or.inl ⟨by rfl, ?yg0⟩) (by assumption) ?_
  case yg0 => intro wq hSw; (try dsimp only at hSw); (go_simp) <;> with_reducible rfl
  try simp only [Act.put, List.getElem_toArray, List.getElem_cons_zero, List.getElem_cons_succ, List.setIfInBounds_toArray, List.set_cons_zero, List.set_cons_succ]
  refine wpAnyH_take (i := 2) (v := ?vg2) rfl (by kernel_rfl) (by kernel_rfl) (by kernel_rfl) (fun _ _ _ h => h) (Or.inl ⟨by rfl, ?yg2⟩) (by assumption) ?_
  case yg2 => intro wq hSw; (try dsimp only at hSw); (go_simp) <;> with_reducible rfl
  try simp only [Act.put, List.getElem_toArray, List.getElem_cons_zero, List.getElem_cons_succ, List.setIfInBounds_toArray, List.set_cons_zero, List.set_cons_succ]
  refine wpAnyH_take (i := 3) (v := ?vg3) rfl (by kernel_rfl) (by kernel_rfl) (by kernel_rfl) (fun _ _ _ h => h) (Or.inl ⟨by rfl, ?yg3⟩) (by assumption) ?_
  case yg3 => intro wq hSw; (try dsimp only at hSw); (go_simp) <;> with_reducible rfl
  try simp only [Act.put, List.getElem_toArray, List.getElem_cons_zero, List.getElem_cons_succ, List.setIfInBounds_toArray, List.set_cons_zero, List.set_cons_succ]
  refine wpAnyH_take (i := 4) (v := ?vg4) rfl (by kernel_rfl) (by kernel_rfl) (by kernel_rfl) (fun _ _ _ h => h) (Or.inl ⟨by rfl, ?yg4⟩) (by assumption) ?_
  case yg4 => intro wq hSw; (try dsimp only at hSw); (go_simp) <;> with_reducible rfl
  try simp only [Act.put, List.getElem_toArray, List.getElem_cons_zero, List.getElem_cons_succ, List.setIfInBounds_toArray, List.set_cons_zero, List.set_cons_succ]
  refine wpAnyH_take (i := 5) (v := ?vg5) rfl (by kernel_rfl) (by kernel_rfl) (by kernel_rfl) (fun _ _ _ h => h) (Or.inl ⟨by rfl, ?yg5⟩) (by assumption) ?_
  case yg5 => intro wq hSw; (try dsimp only at hSw); (go_simp) <;> with_reducible rfl
  try simp only [Act.put, List.getElem_toArray, List.getElem_cons_zero, List.getElem_cons_succ, List.setIfInBounds_toArray, List.set_cons_zero, List.set_cons_succ]
  refine wpAnyH_ready (rs := [1]) (by kernel_rfl) (by simp) ?_
  refine AllReadyH.cons rfl (fun K1 hK1 => ?_) AllReadyH.nil
  go_simp
  go_wp2_with (go_at_call 16; refine her.mono ?_; rintro e w' ⟨rfl, hw⟩; subst w'; clear her)
  refine hK1.out _ _ hS13 (fun hHeld => ?_)
  clear hK1 K1 hHeld
  try simp only [Act.put, List.getElem_toArray, List.getElem_cons_zero, List.getElem_cons_succ, List.setIfInBounds_toArray, List.set_cons_zero, List.set_cons_succ]
  refine wpAnyH_take (i := 6) (v := ?vg6) rfl (by kernel_rfl) (by kernel_rfl) (by kernel_rfl) (fun _ _ _ h => h) (Or.inl ⟨by rfl, ?yg6⟩) (by assumption) ?_
  case yg6 => intro wq hSw; (try dsimp only at hSw); (go_simp) <;> with_reducible rfl
  try simp only [Act.put, List.getElem_toArray, List.getElem_cons_zero, List.getElem_cons_succ, List.setIfInBounds_toArray, List.set_cons_zero, List.set_cons_succ]
  refine wpAnyH_take (i := 7) (v := ?vg7) rfl (by kernel_rfl) (by kernel_rfl) (by kernel_rfl) (fun _ _ _ h => h) (Or.inl ⟨by rfl, ?yg7⟩) (by assumption) ?_
  case yg7 => intro wq hSw; (try dsimp only at hSw); (go_simp) <;> with_reducible rfl
  try simp only [Act.put, List.getElem_toArray, List.getElem_cons_zero, List.getElem_cons_succ, List.setIfInBounds_toArray, List.set_cons_zero, List.set_cons_succ]
  refine wpAnyH_take (i := 8) (v := ?vg8) rfl (by kernel_rfl) (by kernel_rfl) (by kernel_rfl) (fun _ _ _ h => h) (Or.inl ⟨by rfl, ?yg8⟩) (by assumption) ?_
  case yg8 => intro wq hSw; (try dsimp only at hSw); (go_simp) <;> with_reducible rfl
  try simp only [Act.put, List.getElem_toArray, List.getElem_cons_zero, List.getElem_cons_succ, List.setIfInBounds_toArray, List.set_cons_zero, List.set_cons_succ]
  refine wpAnyH_take (i := 9) (v := ?vg9) rfl (by kernel_rfl) (by kernel_rfl) (by kernel_rfl) (fun _ _ _ h => h) (Or.inl ⟨by rfl, ?yg9⟩) (by assumption) ?_
  case yg9 => intro wq hSw; (try dsimp only at hSw); (go_simp) <;> with_reducible rfl
  try simp only [Act.put, List.getElem_toArray, List.getElem_cons_zero, List.getElem_cons_succ, List.setIfInBounds_toArray, List.set_cons_zero, List.set_cons_succ]
  refine wpAnyH_take (i := 10) (v := ?vg10) rfl (by kernel_rfl) (by kernel_rfl) (by kernel_rfl) (fun _ _ _ h => h) (Or.inl ⟨by rfl, ?yg10⟩) (by assumption) ?_
  case yg10 => intro wq hSw; (try dsimp only at hSw); (go_simp) <;> with_reducible rfl
  try simp only [Act.put, List.getElem_toArray, List.getElem_cons_zero, List.getElem_cons_succ, List.setIfInBounds_toArray, List.set_cons_zero, List.set_cons_succ]
  refine wpAnyH_take (i := 11) (v := ?vg11) rfl (by kernel_rfl) (by kernel_rfl) (by kernel_rfl) (fun _ _ _ h => h) (Or.inl ⟨by rfl, ?yg11⟩) (by assumption) ?_
  case yg11 => intro wq hSw; (try dsimp only at hSw); (go_simp) <;> with_reducible rfl
  try simp only [Act.put, List.getElem_toArray, List.getElem_cons_zero, List.getElem_cons_succ, List.setIfInBounds_toArray, List.set_cons_zero, List.set_cons_succ]
  refine wpAnyH_take (i := 12) (v := ?vg12) rfl (by kernel_rfl) (by kernel_rfl) (by kernel_rfl) (fun _ _ _ h => h) (Or.inl ⟨by rfl, ?yg12⟩) (by assumption) ?_
  case yg12 => intro wq hSw; (try dsimp only at hSw); (go_simp) <;> with_reducible rfl
  try simp only [Act.put, List.getElem_toArray, List.getElem_cons_zero, List.getElem_cons_succ, List.setIfInBounds_toArray, List.set_cons_zero, List.set_cons_succ]
  refine wpAnyH_take (i := 13) (v := ?vg13) rfl (by kernel_rfl) (by kernel_rfl) (by kernel_rfl) (fun _ _ _ h => h) (Or.inl ⟨by rfl, ?yg13⟩) (by assumption) ?_
  case yg13 => intro wq hSw; (try dsimp only at hSw); (go_simp) <;> with_reducible rfl
  try simp only [Act.put, List.getElem_toArray, List.getElem_cons_zero, List.getElem_cons_succ, List.setIfInBounds_toArray, List.set_cons_zero, List.set_cons_succ]
  refine wpAnyH_take (i := 14) (v := undef) rfl (by kernel_rfl) (by kernel_rfl) (by kernel_rfl) (fun _ _ _ h => h) (Or.inr ⟨by rfl, rfl⟩) (by assumption) ?_
  try simp only [Act.put, List.getElem_toArray, List.getElem_cons_zero, List.getElem_cons_succ, List.setIfInBounds_toArray, List.set_cons_zero, List.set_cons_succ]
  refine wpAnyH_take (i := 15) (v := undef) rfl (by kernel_rfl) (by kernel_rfl) (by kernel_rfl) (fun _ _ _ h => h) (Or.inr ⟨by rfl, rfl⟩) (by assumption) ?_
  try simp only [Act.put, List.getElem_toArray, List.getElem_cons_zero, List.getElem_cons_succ, List.setIfInBounds_toArray, List.set_cons_zero, List.set_cons_succ]
  refine wpAnyH_take (i := 16) (v := ?vg16) rfl (by kernel_rfl) (by kernel_rfl) (by kernel_rfl) (fun _ _ _ h => h) (Or.inl ⟨by rfl, ?yg16⟩) (by assumption) ?_
  case yg16 => intro wq hSw; (try dsimp only at hSw); (go_simp) <;> with_reducible rfl
  try simp only [Act.put, List.getElem_toArray, List.getElem_cons_zero, List.getElem_cons_succ, List.setIfInBounds_toArray, List.set_cons_zero, List.set_cons_succ]
  refine wpAnyH_take (i := 17) (v := ?vg17) rfl (by kernel_rfl) (by kernel_rfl) (by kernel_rfl) (fun _ _ _ h => h) (Or.inl ⟨by rfl, ?yg17⟩) (by assumption) ?_
  case yg17 => intro wq hSw; (try dsimp only at hSw); (go_simp) <;> with_reducible rfl
  try simp only [Act.put, List.getElem_toArray, List.getElem_cons_zero, List.getElem_cons_succ, List.setIfInBounds_toArray, List.set_cons_zero, List.set_cons_succ]
  refine wpAnyH_done (by kernel_rfl) ?_ _
  go_wp2
  refine wp_region_any (by kernel_rfl) ?_
  change wpAny _ _ _ _ _ _ _ (World.drew _)
  obtain ⟨w14, hw14⟩ : ∃ w14, World.drew w13 = w14 := ⟨_, rfl⟩
  rw [hw14]
  have hm14 : More w13 w14 := by rw [← hw14]; exact More.drew _
  clear hw14
  have H14 := Hid.mk (And.intro (H13.out.1.more hm14) (And.intro (More.trans H13.out.2.1 hm14) (And.intro (More.tab H13.out.2.2.1 hm14) (And.intro (H13.out.2.2.2.1.more hm14) (And.intro (H13.out.2.2.2.2.1.more hm14) (More.own H13.out.2.2.2.2.2 hm14))))))
  obtain ⟨d0, d1, y0, y1⟩ := wcells2 (H14.out.2.2.2.1).mem
  have hS14 : w14.cell? ⟨w9.heap.size, 0, none⟩ = some (.string (bs (sl.drop t))) ∧ w14.cell? ⟨w9.heap.size, 1, none⟩ = some (.int .i64 (0 : Nat)) := ⟨d0, d1⟩
  clear d0 d1 y0 y1
  have hwd := pack_width p12 U d n w14 H14.out.2.2.2.2.1.rd
  have hln := pack_len p12 U d n w14 H14.out.2.2.2.2.1.rd
  clear hm14 H13 hS13
  refine wpAny_of_held (S := fun w' => w'.cell? ⟨w9.heap.size, 0, none⟩ = some (.string (bs (sl.drop t))) ∧ w'.cell? ⟨w9.heap.size, 1, none⟩ = some (.int .i64 (0 : Nat))) _ _ _ _ ?_
  refine wpAnyH_take (i := 0) (v := ?vh0) rfl (by kernel_rfl) (by kernel_rfl) (by kernel_rfl) (fun _ _ _ h => h) (Or.inl ⟨by rfl, ?yh0⟩) (by assumption) ?_
  case yh0 => intro wq hSw; (try dsimp only at hSw); (go_simp) <;> with_reducible rfl
  try simp only [Act.put, List.getElem_toArray, List.getElem_cons_zero, List.getElem_cons_succ, List.setIfInBounds_toArray, List.set_cons_zero, List.set_cons_succ]
  refine wpAnyH_take (i := 1) (v := ?vh1) rfl (by kernel_rfl) (by kernel_rfl) (by kernel_rfl) (fun _ _ _ h => h) (Or.inl ⟨by rfl, ?yh1⟩) (by assumption) ?_
  case yh1 => intro wq hSw; (try dsimp only at hSw); (go_simp) <;> with_reducible rfl
  try simp only [Act.put, List.getElem_toArray, List.getElem_cons_zero, List.getElem_cons_succ, List.setIfInBounds_toArray, List.set_cons_zero, List.set_cons_succ]
  refine wpAnyH_take (i := 2) (v := ?vh2) rfl (by kernel_rfl) (by kernel_rfl) (by kernel_rfl) (fun _ _ _ h => h) (Or.inl ⟨by rfl, ?yh2⟩) (by assumption) ?_
  case yh2 => intro wq hSw; (try dsimp only at hSw); (go_simp) <;> with_reducible rfl
  try simp only [Act.put, List.getElem_toArray, List.getElem_cons_zero, List.getElem_cons_succ, List.setIfInBounds_toArray, List.set_cons_zero, List.set_cons_succ]
  refine wpAnyH_take (i := 3) (v := ?vh3) rfl (by kernel_rfl) (by kernel_rfl) (by kernel_rfl) (fun _ _ _ h => h) (Or.inl ⟨by rfl, ?yh3⟩) (by assumption) ?_
  case yh3 => intro wq hSw; (try dsimp only at hSw); (go_simp) <;> with_reducible rfl
  try simp only [Act.put, List.getElem_toArray, List.getElem_cons_zero, List.getElem_cons_succ, List.setIfInBounds_toArray, List.set_cons_zero, List.set_cons_succ]
  refine wpAnyH_take (i := 4) (v := ?vh4) rfl (by kernel_rfl) (by kernel_rfl) (by kernel_rfl) (fun _ _ _ h => h) (Or.inl ⟨by rfl, ?yh4⟩) (by assumption) ?_
  case yh4 => intro wq hSw; (try dsimp only at hSw); (go_simp) <;> with_reducible rfl
  try simp only [Act.put, List.getElem_toArray, List.getElem_cons_zero, List.getElem_cons_succ, List.setIfInBounds_toArray, List.set_cons_zero, List.set_cons_succ]
  refine wpAnyH_take (i := 5) (v := ?vh5) rfl (by kernel_rfl) (by kernel_rfl) (by kernel_rfl) (fun _ _ _ h => h) (Or.inl ⟨by rfl, ?yh5⟩) (by assumption) ?_
  case yh5 => intro wq hSw; (try dsimp only at hSw); (go_simp) <;> with_reducible rfl
  try simp only [Act.put, List.getElem_toArray, List.getElem_cons_zero, List.getElem_cons_succ, List.setIfInBounds_toArray, List.set_cons_zero, List.set_cons_succ]
  refine wpAnyH_take (i := 6) (v := ?vh6) rfl (by kernel_rfl) (by kernel_rfl) (by kernel_rfl) (fun _ _ _ h => h) (Or.inl ⟨by rfl, ?yh6⟩) (by assumption) ?_
  case yh6 => intro wq hSw; (try dsimp only at hSw); (go_simp) <;> with_reducible rfl
  try simp only [Act.put, List.getElem_toArray, List.getElem_cons_zero, List.getElem_cons_succ, List.setIfInBounds_toArray, List.set_cons_zero, List.set_cons_succ]
  refine wpAnyH_take (i := 8) (v := ?vh8) rfl (by kernel_rfl) (by kernel_rfl) (by kernel_rfl) (fun _ _ _ h => h) (Or.inl ⟨by rfl, ?yh8⟩) (by assumption) ?_
  case yh8 => intro wq hSw; (try dsimp only at hSw); (go_simp) <;> with_reducible rfl
  try simp only [Act.put, List.getElem_toArray, List.getElem_cons_zero, List.getElem_cons_succ, List.setIfInBounds_toArray, List.set_cons_zero, List.set_cons_succ]
  refine wpAnyH_ready (rs := [7]) (by kernel_rfl) (by simp) ?_
  refine AllReadyH.cons rfl (fun K7 hK7 => ?_) AllReadyH.nil
  go_simp
  go_wp2_with (go_at_call 28; refine hwd.mono ?_; rintro e w' ⟨rfl, hw⟩; subst w'; clear hwd)
  refine hK7.out _ _ hS14 (fun hHeld => ?_)
  clear hK7 K7 hHeld
  try simp only [Act.put, List.getElem_toArray, List.getElem_cons_zero, List.getElem_cons_succ, List.setIfInBounds_toArray, List.set_cons_zero, List.set_cons_succ]
  refine wpAnyH_take (i := 9) (v := ?vh9) rfl (by kernel_rfl) (by kernel_rfl) (by kernel_rfl) (fun _ _ _ h => h) (Or.inl ⟨by rfl, ?yh9⟩) (by assumption) ?_
  case yh9 => intro wq hSw; (try dsimp only at hSw); (go_simp) <;> with_reducible rfl
  try simp only [Act.put, List.getElem_toArray, List.getElem_cons_zero, List.getElem_cons_succ, List.setIfInBounds_toArray, List.set_cons_zero, List.set_cons_succ]
  refine wpAnyH_take (i := 10) (v := ?vh10) rfl (by kernel_rfl) (by kernel_rfl) (by kernel_rfl) (fun _ _ _ h => h) (Or.inl ⟨by rfl, ?yh10⟩) (by assumption) ?_
  case yh10 => intro wq hSw; (try dsimp only at hSw); (go_simp) <;> with_reducible rfl
  try simp only [Act.put, List.getElem_toArray, List.getElem_cons_zero, List.getElem_cons_succ, List.setIfInBounds_toArray, List.set_cons_zero, List.set_cons_succ]
  refine wpAnyH_take (i := 11) (v := ?vh11) rfl (by kernel_rfl) (by kernel_rfl) (by kernel_rfl) (fun _ _ _ h => h) (Or.inl ⟨by rfl, ?yh11⟩) (by assumption) ?_
  case yh11 => intro wq hSw; (try dsimp only at hSw); (go_simp) <;> with_reducible rfl
  try simp only [Act.put, List.getElem_toArray, List.getElem_cons_zero, List.getElem_cons_succ, List.setIfInBounds_toArray, List.set_cons_zero, List.set_cons_succ]
  refine wpAnyH_take (i := 13) (v := ?vh13) rfl (by kernel_rfl) (by kernel_rfl) (by kernel_rfl) (fun _ _ _ h => h) (Or.inl ⟨by rfl, ?yh13⟩) (by assumption) ?_
  case yh13 => intro wq hSw; (try dsimp only at hSw); (go_simp) <;> with_reducible rfl
  try simp only [Act.put, List.getElem_toArray, List.getElem_cons_zero, List.getElem_cons_succ, List.setIfInBounds_toArray, List.set_cons_zero, List.set_cons_succ]
  refine wpAnyH_take (i := 14) (v := ?vh14) rfl (by kernel_rfl) (by kernel_rfl) (by kernel_rfl) (fun _ _ _ h => h) (Or.inl ⟨by rfl, ?yh14⟩) (by assumption) ?_
  case yh14 => intro wq hSw; (try dsimp only at hSw); (go_simp) <;> with_reducible rfl
  try simp only [Act.put, List.getElem_toArray, List.getElem_cons_zero, List.getElem_cons_succ, List.setIfInBounds_toArray, List.set_cons_zero, List.set_cons_succ]
  refine wpAnyH_ready (rs := [12]) (by kernel_rfl) (by simp) ?_
  refine AllReadyH.cons rfl (fun K12 hK12 => ?_) AllReadyH.nil
  go_simp
  go_wp2_with (go_at_call 27; refine hln.mono ?_; rintro e w' ⟨rfl, hw⟩; subst w'; clear hln)
  refine hK12.out _ _ hS14 (fun hHeld => ?_)
  clear hK12 K12 hHeld
  try simp only [Act.put, List.getElem_toArray, List.getElem_cons_zero, List.getElem_cons_succ, List.setIfInBounds_toArray, List.set_cons_zero, List.set_cons_succ]
  refine wpAnyH_take (i := 15) (v := ?vh15) rfl (by kernel_rfl) (by kernel_rfl) (by kernel_rfl) (fun _ _ _ h => h) (Or.inl ⟨by rfl, ?yh15⟩) (by assumption) ?_
  case yh15 => intro wq hSw; (try dsimp only at hSw); (go_simp) <;> with_reducible rfl
  try simp only [Act.put, List.getElem_toArray, List.getElem_cons_zero, List.getElem_cons_succ, List.setIfInBounds_toArray, List.set_cons_zero, List.set_cons_succ]
  refine wpAnyH_take (i := 16) (v := ?vh16) rfl (by kernel_rfl) (by kernel_rfl) (by kernel_rfl) (fun _ _ _ h => h) (Or.inl ⟨by rfl, ?yh16⟩) (by assumption) ?_
  case yh16 => intro wq hSw; (try dsimp only at hSw); (go_simp) <;> with_reducible rfl
  try simp only [Act.put, List.getElem_toArray, List.getElem_cons_zero, List.getElem_cons_succ, List.setIfInBounds_toArray, List.set_cons_zero, List.set_cons_succ]
  refine wpAnyH_take (i := 17) (v := ?vh17) rfl (by kernel_rfl) (by kernel_rfl) (by kernel_rfl) (fun _ _ _ h => h) (Or.inl ⟨by rfl, ?yh17⟩) (by assumption) ?_
  case yh17 => intro wq hSw; (try dsimp only at hSw); (go_simp) <;> with_reducible rfl
  try simp only [Act.put, List.getElem_toArray, List.getElem_cons_zero, List.getElem_cons_succ, List.setIfInBounds_toArray, List.set_cons_zero, List.set_cons_succ]
  refine wpAnyH_take (i := 18) (v := ?vh18) rfl (by kernel_rfl) (by kernel_rfl) (by kernel_rfl) (fun _ _ _ h => h) (Or.inl ⟨by rfl, ?yh18⟩) (by assumption) ?_
  case yh18 => intro wq hSw; (try dsimp only at hSw); (go_simp) <;> with_reducible rfl
  try simp only [Act.put, List.getElem_toArray, List.getElem_cons_zero, List.getElem_cons_succ, List.setIfInBounds_toArray, List.set_cons_zero, List.set_cons_succ]
  refine wpAnyH_take (i := 20) (v := ?vh20) rfl (by kernel_rfl) (by kernel_rfl) (by kernel_rfl) (fun _ _ _ h => h) (Or.inl ⟨by rfl, ?yh20⟩) (by assumption) ?_
  case yh20 => intro wq hSw; (try dsimp only at hSw); (go_simp) <;> with_reducible rfl
  try simp only [Act.put, List.getElem_toArray, List.getElem_cons_zero, List.getElem_cons_succ, List.setIfInBounds_toArray, List.set_cons_zero, List.set_cons_succ]
  refine wpAnyH_take (i := 21) (v := ?vh21) rfl (by kernel_rfl) (by kernel_rfl) (by kernel_rfl) (fun _ _ _ h => h) (Or.inl ⟨by rfl, ?yh21⟩) (by assumption) ?_
  case yh21 => intro wq hSw; (try dsimp only at hSw); (go_simp) <;> with_reducible rfl
  try simp only [Act.put, List.getElem_toArray, List.getElem_cons_zero, List.getElem_cons_succ, List.setIfInBounds_toArray, List.set_cons_zero, List.set_cons_succ]
  refine wpAnyH_ready (rs := [19]) (by kernel_rfl) (by simp) ?_
  refine AllReadyH.cons rfl (fun K19 hK19 => ?_) AllReadyH.nil
  go_simp
  go_wp2_with (go_at_call 29; refine (pack_words _ p12 U d n w14 H14.out.2.2.2.2.1).mono ?_; rintro e w15 ⟨v15, rfl, ho15, hm15⟩; obtain ⟨a15, c15, rfl⟩ := shape_of ho15; have H15 := Hid.mk (And.intro (H14.out.1.more hm15) (And.intro (More.trans H14.out.2.1 hm15) (And.intro (More.tab H14.out.2.2.1 hm15) (And.intro (H14.out.2.2.2.1.more hm15) (And.intro (H14.out.2.2.2.2.1.more hm15) (More.own H14.out.2.2.2.2.2 hm15)))))); obtain ⟨d0, d1, y0, y1⟩ := wcells2 (H15.out.2.2.2.1).mem; have hS15 : w15.cell? ⟨w9.heap.size, 0, none⟩ = some (.string (bs (sl.drop t))) ∧ w15.cell? ⟨w9.heap.size, 1, none⟩ = some (.int .i64 (0 : Nat)) := ⟨d0, d1⟩; clear d0 d1 y0 y1; have HO15 := Hid.mk ho15; clear ho15 hm15)
  refine hK19.out _ _ hS15 (fun hHeld => ?_)
  clear hK19 K19 hHeld
  try simp only [Act.put, List.getElem_toArray, List.getElem_cons_zero, List.getElem_cons_succ, List.setIfInBounds_toArray, List.set_cons_zero, List.set_cons_succ]
  refine wpAnyH_ready (rs := [22]) (by kernel_rfl) (by simp) ?_
  refine AllReadyH.cons rfl (fun K22 hK22 => ?_) AllReadyH.nil
  go_simp
  go_wp2_with (go_at_call 30; refine (refp_words _ n d _ w15 (rd_of_own H15.out.2.2.2.2.2) (fun j _ => Nat.mod_lt _ (Nat.two_pow_pos d)) hd64 (by omega)).mono ?_; rintro e w16 ⟨v16, rfl, ho16, hm16⟩; obtain ⟨a16, c16, rfl⟩ := shape_of ho16; rw [packV_of, Nat.mod_eq_of_lt HG.out.1] at ho16; have H16 := Hid.mk (And.intro (H15.out.1.more hm16) (And.intro (More.trans H15.out.2.1 hm16) (And.intro (More.tab H15.out.2.2.1 hm16) (And.intro (H15.out.2.2.2.1.more hm16) (And.intro (H15.out.2.2.2.2.1.more hm16) (More.own H15.out.2.2.2.2.2 hm16)))))); obtain ⟨d0, d1, y0, y1⟩ := wcells2 (H16.out.2.2.2.1).mem; have hS16 : w16.cell? ⟨w9.heap.size, 0, none⟩ = some (.string (bs (sl.drop t))) ∧ w16.cell? ⟨w9.heap.size, 1, none⟩ = some (.int .i64 (0 : Nat)) := ⟨d0, d1⟩; clear d0 d1 y0 y1; have HO16 := Hid.mk (And.intro ho16 (More.own HO15.out hm16)); clear ho16 hm16)
  refine hK22.out _ _ hS16 (fun hHeld => ?_)
  clear hK22 K22 hHeld
  try simp only [Act.put, List.getElem_toArray, List.getElem_cons_zero, List.getElem_cons_succ, List.setIfInBounds_toArray, List.set_cons_zero, List.set_cons_succ]
  refine wpAnyH_ready (rs := [23]) (by kernel_rfl) (by simp) ?_
  refine AllReadyH.cons rfl (fun K23 hK23 => ?_) AllReadyH.nil
  go_simp
  go_wp2_with (go_at_call 19; refine (same_as _ _ (nw (d * n)) (wd U) w16 (rd_of_own HO16.out.2) (rd_of_own HO16.out.1) (by unfold nw; omega)).mono ?_; rintro e w17 ⟨rfl, m17, hw17⟩; have hm17 : More w16 w17 := (by rw [hw17]; exact More.drewN w16 m17); have H17 := Hid.mk (And.intro (H16.out.1.more hm17) (And.intro (More.trans H16.out.2.1 hm17) (And.intro (More.tab H16.out.2.2.1 hm17) (And.intro (H16.out.2.2.2.1.more hm17) (And.intro (H16.out.2.2.2.2.1.more hm17) (More.own H16.out.2.2.2.2.2 hm17)))))); obtain ⟨d0, d1, y0, y1⟩ := wcells2 (H17.out.2.2.2.1).mem; have hS17 : w17.cell? ⟨w9.heap.size, 0, none⟩ = some (.string (bs (sl.drop t))) ∧ w17.cell? ⟨w9.heap.size, 1, none⟩ = some (.int .i64 (0 : Nat)) := ⟨d0, d1⟩; clear d0 d1 y0 y1; have hle := rd_left _ _ _ _ _ w17 H17.out.1; rw [HG.out.2] at hle; clear hw17 hm17)
  refine hK23.out _ _ hS17 (fun hHeld => ?_)
  clear hK23 K23 hHeld
  try simp only [Act.put, List.getElem_toArray, List.getElem_cons_zero, List.getElem_cons_succ, List.setIfInBounds_toArray, List.set_cons_zero, List.set_cons_succ]
  refine wpAnyH_take (i := 24) (v := ?vh24) rfl (by kernel_rfl) (by kernel_rfl) (by kernel_rfl) (fun _ _ _ h => h) (Or.inl ⟨by rfl, ?yh24⟩) (by assumption) ?_
  case yh24 => intro wq hSw; (try dsimp only at hSw); (go_simp) <;> with_reducible rfl
  try simp only [Act.put, List.getElem_toArray, List.getElem_cons_zero, List.getElem_cons_succ, List.setIfInBounds_toArray, List.set_cons_zero, List.set_cons_succ]
  refine wpAnyH_take (i := 25) (v := ?vh25) rfl (by kernel_rfl) (by kernel_rfl) (by kernel_rfl) (fun _ _ _ h => h) (Or.inl ⟨by rfl, ?yh25⟩) (by assumption) ?_
  case yh25 => intro wq hSw; (try dsimp only at hSw); (go_simp) <;> with_reducible rfl
  try simp only [Act.put, List.getElem_toArray, List.getElem_cons_zero, List.getElem_cons_succ, List.setIfInBounds_toArray, List.set_cons_zero, List.set_cons_succ]
  refine wpAnyH_take (i := 26) (v := ?vh26) rfl (by kernel_rfl) (by kernel_rfl) (by kernel_rfl) (fun _ _ _ h => h) (Or.inl ⟨by rfl, ?yh26⟩) (by assumption) ?_
  case yh26 => intro wq hSw; (try dsimp only at hSw); (go_simp) <;> with_reducible rfl
  try simp only [Act.put, List.getElem_toArray, List.getElem_cons_zero, List.getElem_cons_succ, List.setIfInBounds_toArray, List.set_cons_zero, List.set_cons_succ]
  refine wpAnyH_take (i := 28) (v := ?vh28) rfl (by kernel_rfl) (by kernel_rfl) (by kernel_rfl) (fun _ _ _ h => h) (Or.inl ⟨by rfl, ?yh28⟩) (by assumption) ?_
  case yh28 => intro wq hSw; (try dsimp only at hSw); (go_simp) <;> with_reducible rfl
  try simp only [Act.put, List.getElem_toArray, List.getElem_cons_zero, List.getElem_cons_succ, List.setIfInBounds_toArray, List.set_cons_zero, List.set_cons_succ]
  refine wpAnyH_take (i := 29) (v := ?vh29) rfl (by kernel_rfl) (by kernel_rfl) (by kernel_rfl) (fun _ _ _ h => h) (Or.inl ⟨by rfl, ?yh29⟩) (by assumption) ?_
  case yh29 => intro wq hSw; (try dsimp only at hSw); (go_simp) <;> with_reducible rfl
  try simp only [Act.put, List.getElem_toArray, List.getElem_cons_zero, List.getElem_cons_succ, List.setIfInBounds_toArray, List.set_cons_zero, List.set_cons_succ]
  refine wpAnyH_take (i := 30) (v := ?vh30) rfl (by kernel_rfl) (by kernel_rfl) (by kernel_rfl) (fun _ _ _ h => h) (Or.inl ⟨by rfl, ?yh30⟩) (by assumption) ?_
  case yh30 => intro wq hSw; (try dsimp only at hSw); (go_simp) <;> with_reducible rfl
  try simp only [Act.put, List.getElem_toArray, List.getElem_cons_zero, List.getElem_cons_succ, List.setIfInBounds_toArray, List.set_cons_zero, List.set_cons_succ]
  refine wpAnyH_take (i := 31) (v := ?vh31) rfl (by kernel_rfl) (by kernel_rfl) (by kernel_rfl) (fun _ _ _ h => h) (Or.inl ⟨by rfl, ?yh31⟩) (by assumption) ?_
  case yh31 => intro wq hSw; (try dsimp only at hSw); (go_simp) <;> with_reducible rfl
  try simp only [Act.put, List.getElem_toArray, List.getElem_cons_zero, List.getElem_cons_succ, List.setIfInBounds_toArray, List.set_cons_zero, List.set_cons_succ]
  refine wpAnyH_take (i := 32) (v := ?vh32) rfl (by kernel_rfl) (by kernel_rfl) (by kernel_rfl) (fun _ _ _ h => h) (Or.inl ⟨by rfl, ?yh32⟩) (by assumption) ?_
  case yh32 => intro wq hSw; (try dsimp only at hSw); (go_simp) <;> with_reducible rfl
  try simp only [Act.put, List.getElem_toArray, List.getElem_cons_zero, List.getElem_cons_succ, List.setIfInBounds_toArray, List.set_cons_zero, List.set_cons_succ]
  refine wpAnyH_ready (rs := [27]) (by kernel_rfl) (by simp) ?_
  refine AllReadyH.cons rfl (fun K27 hK27 => ?_) AllReadyH.nil
  go_simp
  go_wp2_with (go_at_call 15; refine hle.mono ?_; rintro e w18 ⟨rfl, m18, hw18⟩; have hm18 : More w17 w18 := (by rw [hw18]; exact More.drewN w17 m18); have H18 := Hid.mk (And.intro (H17.out.1.more hm18) (And.intro (More.trans H17.out.2.1 hm18) (And.intro (More.tab H17.out.2.2.1 hm18) (And.intro (H17.out.2.2.2.1.more hm18) (And.intro (H17.out.2.2.2.2.1.more hm18) (More.own H17.out.2.2.2.2.2 hm18)))))); obtain ⟨d0, d1, y0, y1⟩ := wcells2 (H18.out.2.2.2.1).mem; have hS18 : w18.cell? ⟨w9.heap.size, 0, none⟩ = some (.string (bs (sl.drop t))) ∧ w18.cell? ⟨w9.heap.size, 1, none⟩ = some (.int .i64 (0 : Nat)) := ⟨d0, d1⟩; clear d0 d1 y0 y1; have hlv := sb_live w18 H18.out.2.2.1; clear hw18 hm18 hle)
  refine hK27.out _ _ hS18 (fun hHeld => ?_)
  clear hK27 K27 hHeld
  try simp only [Act.put, List.getElem_toArray, List.getElem_cons_zero, List.getElem_cons_succ, List.setIfInBounds_toArray, List.set_cons_zero, List.set_cons_succ]
  refine wpAnyH_take (i := 33) (v := ?vh33) rfl (by kernel_rfl) (by kernel_rfl) (by kernel_rfl) (fun _ _ _ h => h) (Or.inl ⟨by rfl, ?yh33⟩) (by assumption) ?_
  case yh33 => intro wq hSw; (try dsimp only at hSw); (go_simp) <;> with_reducible rfl
  try simp only [Act.put, List.getElem_toArray, List.getElem_cons_zero, List.getElem_cons_succ, List.setIfInBounds_toArray, List.set_cons_zero, List.set_cons_succ]
  refine wpAnyH_take (i := 34) (v := ?vh34) rfl (by kernel_rfl) (by kernel_rfl) (by kernel_rfl) (fun _ _ _ h => h) (Or.inl ⟨by rfl, ?yh34⟩) (by assumption) ?_
  case yh34 => intro wq hSw; (try dsimp only at hSw); (go_simp) <;> with_reducible rfl
  try simp only [Act.put, List.getElem_toArray, List.getElem_cons_zero, List.getElem_cons_succ, List.setIfInBounds_toArray, List.set_cons_zero, List.set_cons_succ]
  refine wpAnyH_take (i := 35) (v := ?vh35) rfl (by kernel_rfl) (by kernel_rfl) (by kernel_rfl) (fun _ _ _ h => h) (Or.inl ⟨by rfl, ?yh35⟩) (by assumption) ?_
  case yh35 => intro wq hSw; (try dsimp only at hSw); (go_simp) <;> with_reducible rfl
  try simp only [Act.put, List.getElem_toArray, List.getElem_cons_zero, List.getElem_cons_succ, List.setIfInBounds_toArray, List.set_cons_zero, List.set_cons_succ]
  refine wpAnyH_take (i := 36) (v := ?vh36) rfl (by kernel_rfl) (by kernel_rfl) (by kernel_rfl) (fun _ _ _ h => h) (Or.inl ⟨by rfl, ?yh36⟩) (by assumption) ?_
  case yh36 => intro wq hSw; (try dsimp only at hSw); (go_simp) <;> with_reducible rfl
  try simp only [Act.put, List.getElem_toArray, List.getElem_cons_zero, List.getElem_cons_succ, List.setIfInBounds_toArray, List.set_cons_zero, List.set_cons_succ]
  refine wpAnyH_ready (rs := [37]) (by kernel_rfl) (by simp) ?_
  refine AllReadyH.cons rfl (fun K37 hK37 => ?_) AllReadyH.nil
  go_simp
  go_wp2_with (go_at_call 7; refine hlv.mono ?_; rintro e w19 ⟨rfl, hm19⟩; have H19 := Hid.mk (And.intro (H18.out.1.more hm19) (And.intro (More.trans H18.out.2.1 hm19) (And.intro (More.tab H18.out.2.2.1 hm19) (And.intro (H18.out.2.2.2.1.more hm19) (And.intro (H18.out.2.2.2.2.1.more hm19) (More.own H18.out.2.2.2.2.2 hm19)))))); obtain ⟨d0, d1, y0, y1⟩ := wcells2 (H19.out.2.2.2.1).mem; have hS19 : w19.cell? ⟨w9.heap.size, 0, none⟩ = some (.string (bs (sl.drop t))) ∧ w19.cell? ⟨w9.heap.size, 1, none⟩ = some (.int .i64 (0 : Nat)) := ⟨d0, d1⟩; clear d0 d1 y0 y1; clear hm19 hlv)
  refine hK37.out _ _ hS19 (fun hHeld => ?_)
  clear hK37 K37 hHeld
  try simp only [Act.put, List.getElem_toArray, List.getElem_cons_zero, List.getElem_cons_succ, List.setIfInBounds_toArray, List.set_cons_zero, List.set_cons_succ]
  refine wpAnyH_take (i := 38) (v := ?vh38) rfl (by kernel_rfl) (by kernel_rfl) (by kernel_rfl) (fun _ _ _ h => h) (Or.inl ⟨by rfl, ?yh38⟩) (by assumption) ?_
  case yh38 => intro wq hSw; (try dsimp only at hSw); (go_simp) <;> with_reducible rfl
  try simp only [Act.put, List.getElem_toArray, List.getElem_cons_zero, List.getElem_cons_succ, List.setIfInBounds_toArray, List.set_cons_zero, List.set_cons_succ]
  refine wpAnyH_take (i := 39) (v := ?vh39) rfl (by kernel_rfl) (by kernel_rfl) (by kernel_rfl) (fun _ _ _ h => h) (Or.inl ⟨by rfl, ?yh39⟩) (by assumption) ?_
  case yh39 => intro wq hSw; (try dsimp only at hSw); (go_simp) <;> with_reducible rfl
  try simp only [Act.put, List.getElem_toArray, List.getElem_cons_zero, List.getElem_cons_succ, List.setIfInBounds_toArray, List.set_cons_zero, List.set_cons_succ]
  refine wpAnyH_done (by kernel_rfl) ?_ _
  go_wp2
  go_ret
  exact ⟨rfl, H19.out.2.1⟩

set_option maxRecDepth 1000000 in
theorem seqbinPacks (v : Value) (K : Nat) (f : Nat → Nat) (sl : List UInt8) (w : World) (h : Rd w v K f) (hf : ∀ j, j < K → f j < 18446744073709551616) (hT : TabIn w) :
    Calls Tryd.prog 4 #[v, .string (bs sl)] w fun e w' => e = .returned (.bool true) ∧ More w w' := by
  by_cases hK : K ≤ 40
  · by_cases hs : sl.length ≤ 200
    · obtain ⟨d, n, u, t1, er1, t2, er2, t3, er, hR⟩ := readsP_any sl 0
      by_cases hg : er = 0 ∧ ofB u < 2 ^ (d * n)
      · obtain ⟨rfl, hg⟩ := hg
        exact sb_packs_good v K f sl w h hf hT hK hs d n t1 er1 t2 er2 t3 u hR hg
      · exact sb_packs_bad v K f sl w h hf hT hK hs d n t1 er1 t2 er2 t3 er u hR hg
    · have hsz : (bs sl).size = sl.length := bs_size sl
      have hl := sb_live w hT
      obtain ⟨ao, cap, rfl⟩ := h.shape
      generalize sl.length = M at *
      clear h hT hf
      go_enter Tryd.func4, Tryd.ntmps4
      go_wp2_with (go_at_call 7; refine hl.mono ?_; rintro e wz ⟨rfl, hmz⟩; have HZ := Hid.mk hmz; clear hmz)
      go_ret
      exact ⟨rfl, HZ.out⟩
  · have hl := sb_live w hT
    obtain ⟨ao, cap, rfl⟩ := h.shape
    clear h hT hf
    go_enter Tryd.func4, Tryd.ntmps4
    go_wp2_with (go_at_call 7; refine hl.mono ?_; rintro e wz ⟨rfl, hmz⟩; have HZ := Hid.mk hmz; clear hmz)
    go_ret
    exact ⟨rfl, HZ.out⟩

end Go.Proofs.YtbfolfacppbalaaDoor
