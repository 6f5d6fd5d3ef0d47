/-
  SeqbinGets walked.
-/
import Derived.Test.YtbfolfacppbalaaDoorSbLawS
import Derived.Test.YtbfolfacppbalaaDoorSbPack
namespace Go.Proofs.YtbfolfacppbalaaDoor
open Go.RowKit

theorem le_gBits (n u : Nat) : n ≤ gBits n u := by unfold gBits; exact Nat.le_trans (Nat.le_add_right n _) (Nat.le_add_left _ _)
/-- What is wrong in the end. -/
def gErr (er : Nat) : Nat := if er = 0 then 3 else er
theorem gErr_ne (er : Nat) : gErr er ≠ 0 := by unfold gErr; split <;> omega
theorem getSeq_bad (base b a E n u t1 er1 t2 er2 t3 er : Nat) (v l : List UInt8) (w : World) (h : RdAt w base b l a E) (hT : TabIn w) (hb0 : 0 < base) (hfew : er = 0 → n ≤ 4000 ∧ gBits n u ≤ 1000000) (hR : Reads (l.drop a) E n u v t1 er1 t2 er2 t3 er) (hbad : ¬ (er = 0 ∧ Good n u (ofB v))) :
    Calls Tryd.prog 36 #[.pointer (some ⟨b, 0, none⟩)] w fun e w' => e = .returned (.pointer none) ∧ RdAt w' base b l (a + (t1 + t2 + t3)) (gErr er) ∧ KeepsT RT base w w' :=
  (sb_getSeq base b a E n u t1 er1 t2 er2 t3 er v l w h hT hb0 hfew hR).mono fun e w' hg => by
    rcases hg.what with ⟨h1, h2, h3⟩ | ⟨h1, h2, _⟩ | ⟨h1, _, h2, h3⟩
    · exact ⟨h2, by unfold gErr; rw [if_neg h1]; exact h3, hg.keeps⟩
    · exact absurd ⟨h1, h2⟩ hbad
    · exact ⟨h2, by unfold gErr; rw [if_pos h1]; exact h3, hg.keeps⟩
theorem getSeq_good (base b a E n u t1 er1 t2 er2 t3 : Nat) (v l : List UInt8) (w : World) (h : RdAt w base b l a E) (hT : TabIn w) (hb0 : 0 < base) (hfew : n ≤ 4000 ∧ gBits n u ≤ 1000000) (hR : Reads (l.drop a) E n u v t1 er1 t2 er2 t3 0) (hgd : Good n u (ofB v)) :
    Calls Tryd.prog 36 #[.pointer (some ⟨b, 0, none⟩)] w fun e w' => ∃ s, e = .returned (.pointer (some ⟨s, 0, none⟩)) ∧ SeqAt w' w.heap.size s (gF n u (ofB v)) n ∧ RdAt w' base b l (a + (t1 + t2 + t3)) 0 ∧ KeepsT RT base w w' :=
  (sb_getSeq base b a E n u t1 er1 t2 er2 t3 0 v l w h hT hb0 (fun _ => hfew) hR).mono fun e w' hg => by
    rcases hg.what with ⟨h1, _⟩ | ⟨_, _, h2, s, h3, h4⟩ | ⟨_, h1, _⟩
    · exact absurd rfl h1
    · exact ⟨s, h3, h4, h2, hg.keeps⟩
    · exact absurd hgd h1
theorem docSeq_bad (base x E n u t1 er1 t2 er2 t3 er : Nat) (v l : List UInt8) (w : World) (h : XAt w base x l E) (hfew : er = 0 → n ≤ 4000 ∧ gBits n u ≤ 1000000) (hR : Reads l E n u v t1 er1 t2 er2 t3 er) (hbad : ¬ (er = 0 ∧ Good n u (ofB v))) :
    Calls Tryd.prog 41 #[.pointer (some ⟨x, 0, none⟩)] w fun e w' => e = .returned (.slice none 0 0) ∧ XAt w' base x (l.drop (t1 + t2 + t3)) (gErr er) ∧ KeepsT XT base w w' :=
  (rsb_getSeq base x E n u t1 er1 t2 er2 t3 er v l w h hfew hR).mono fun e w' hg => by
    rcases hg.what with ⟨h1, h2, h3⟩ | ⟨h1, h2, _⟩ | ⟨h1, _, h2, h3⟩
    · exact ⟨h2, by unfold gErr; rw [if_neg h1]; exact h3, hg.keeps⟩
    · exact absurd ⟨h1, h2⟩ hbad
    · exact ⟨h2, by unfold gErr; rw [if_pos h1]; exact h3, hg.keeps⟩
theorem docSeq_good (base x E n u t1 er1 t2 er2 t3 : Nat) (v l : List UInt8) (w : World) (h : XAt w base x l E) (hfew : n ≤ 4000 ∧ gBits n u ≤ 1000000) (hR : Reads l E n u v t1 er1 t2 er2 t3 0) (hgd : Good n u (ofB v)) :
    Calls Tryd.prog 41 #[.pointer (some ⟨x, 0, none⟩)] w fun e w' => ∃ s, e = .returned s ∧ w'.ownsRow w.heap.size 3 1 s n (ints (gF n u (ofB v)) n) ∧ XAt w' base x (l.drop (t1 + t2 + t3)) 0 ∧ KeepsT XT base w w' :=
  (rsb_getSeq base x E n u t1 er1 t2 er2 t3 0 v l w h (fun _ => hfew) hR).mono fun e w' hg => by
    rcases hg.what with ⟨h1, _⟩ | ⟨_, _, h2, s, h3, h4⟩ | ⟨_, h1, _⟩
    · exact absurd rfl h1
    · exact ⟨s, h3, h4, h2, hg.keeps⟩
    · exact absurd hgd h1
/-- Behind an error nothing is read. -/
theorem reads_err (R : List UInt8) {E : Nat} (hE : E ≠ 0) : Reads R E 0 0 [] 0 E 0 E 0 E := ⟨st_no hE _ _, .inl ⟨rfl, rfl, rfl, rfl⟩, st_no hE _ _⟩
theorem readsP_err (R : List UInt8) {E : Nat} (hE : E ≠ 0) : ReadsP R E 0 0 [] 0 E 0 E 0 E := ⟨st_no hE _ _, st_no hE _ _, st_no hE _ _⟩
theorem getSeq_err (base b a E : Nat) (l : List UInt8) (w : World) (h : RdAt w base b l a E) (hT : TabIn w) (hb0 : 0 < base) (hE : E ≠ 0) :
    Calls Tryd.prog 36 #[.pointer (some ⟨b, 0, none⟩)] w fun e w' => e = .returned (.pointer none) ∧ RdAt w' base b l a E ∧ KeepsT RT base w w' :=
  (getSeq_bad base b a E 0 0 0 E 0 E 0 E [] l w h hT hb0 (fun h => absurd h hE) (reads_err _ hE) (fun h => hE h.1)).mono fun e w' ⟨h1, h2, h3⟩ => ⟨h1, by unfold gErr at h2; rw [if_neg hE] at h2; exact h2, h3⟩
theorem getPack_err (base b a E : Nat) (l : List UInt8) (w : World) (h : RdAt w base b l a E) (hE : E ≠ 0) :
    Calls Tryd.prog 26 #[.pointer (some ⟨b, 0, none⟩)] w fun e w' => e = .returned (.pointer none) ∧ RdAt w' base b l a E ∧ KeepsT RT base w w' :=
  (sb_getPack base b a E 0 0 0 E 0 E 0 E [] l w h (readsP_err _ hE)).mono fun e w' hg => by
    rcases hg.what with ⟨_, h1, h2⟩ | ⟨h1, _⟩ | ⟨h1, _⟩
    · exact ⟨h1, h2, hg.keeps⟩
    · exact absurd h1 hE
    · exact absurd h1 hE
theorem getSums_err (base b a E : Nat) (l : List UInt8) (w : World) (h : RdAt w base b l a E) (hT : TabIn w) (hb0 : 0 < base) (hE : E ≠ 0) :
    Calls Tryd.prog 42 #[.pointer (some ⟨b, 0, none⟩)] w fun e w' => e = .returned (.pointer none) ∧ RdAt w' base b l a E ∧ KeepsT RT base w w' := by
  have h1 := getSeq_err base b a E l w h hT hb0 hE
  clear h hT
  go_enter Tryd.func42, Tryd.ntmps42
  go_wp2_with (go_at_call 36; refine h1.mono ?_; rintro e w1 ⟨rfl, hr1, hk1⟩; have H1 := Hid.mk (And.intro hr1 hk1); clear hr1 hk1 h1)
  go_ret
  exact ⟨rfl, H1.out.1, H1.out.2⟩
theorem x_new (w : World) (l : List UInt8) (hl : l.length ≤ 100000000) : XAt (w.alloc (.cells #[.string (bs l), .int .i64 0] 44)) w.heap.size w.heap.size l 0 :=
  ⟨Nat.le_refl _, by simp, hl, heap_alloc_new _ _⟩

set_option maxHeartbeats 3200000 in
set_option maxRecDepth 1000000 in
theorem sb_gets_bad (l : List UInt8) (w : World) (hl : l.length ≤ 300) (hT : TabIn w) (n u t1 er1 t2 er2 t3 er : Nat) (v : List UInt8) (hR : Reads l 0 n u v t1 er1 t2 er2 t3 er) (hfew : er = 0 → n ≤ 4000 ∧ gBits n u ≤ 1000000) (hbad : ¬ (er = 0 ∧ Good n u (ofB v))) :
    Calls Tryd.prog 6 #[.string (bs l)] w fun e w' => e = .returned (.bool true) ∧ More w w' := by
  have hsz : (bs l).size = l.length := bs_size l
  have hdoc := fun w' => docSeq_bad w.heap.size w.heap.size 0 n u t1 er1 t2 er2 t3 er v l w' 
  have hd1 := hdoc _ (x_new w l (by omega)) hfew hR hbad
  have hopen := fun w => rd_open l (by omega) w
  have hget := fun base b (w' : World) (h1 : RdAt w' base b l 0 0) h2 h3 => getSeq_bad base b 0 0 n u t1 er1 t2 er2 t3 er v l w' h1 h2 h3 hfew (by rw [List.drop_zero]; exact hR) hbad
  obtain ⟨G, hG⟩ : ∃ G, gErr er = G := ⟨_, rfl⟩
  have hG0 : G ≠ 0 := by rw [← hG]; exact gErr_ne er
  rw [hG] at hd1
  simp only [hG, Nat.zero_add] at hget
  obtain ⟨t, ht⟩ : ∃ t, t1 + t2 + t3 = t := ⟨_, rfl⟩
  rw [ht] at hd1
  simp only [ht] at hget
  have hGi : ¬ (G : Int) = 0 := by omega
  have HH := Hid.mk hT
  obtain ⟨M, hM⟩ : ∃ M, l.length = M := ⟨_, rfl⟩
  rw [hM] at hsz hl
  clear hR hbad hfew hdoc hG ht hT hM
  go_enter Tryd.func6, Tryd.ntmps6
  go_wp2_with (first
    | (go_at_call 41; refine hd1.mono ?_; rintro e w1 ⟨rfl, hx1, hk1⟩; have hm1 : More w w1 := Below.trans (More.alloc w _) hk1.below; have H1 := Hid.mk (And.intro hx1 (And.intro hm1 (More.tab HH.out hm1))); clear hx1 hk1 hm1 hd1)
    | (go_at_call 10; refine (hopen w1).mono ?_; rintro e w2 ⟨rfl, hr2, hm2⟩; have H2 := Hid.mk (And.intro hr2 (And.intro hm2 (More.tab H1.out.2.2 hm2))); clear hr2 hm2 hopen)
    | (go_at_call 36; refine (hget w1.heap.size w1.heap.size w2 H2.out.1 H2.out.2.2 (tab_pos H1.out.2.2)).mono ?_; rintro e w3 ⟨rfl, hr3, hk3⟩; have hm3 : More w1 w3 := Below.trans H2.out.2.1 hk3.below; have hx3 := H1.out.1.more hm3; obtain ⟨c0, c1, z0, z1⟩ := wcells2 hx3.mem; have H3 := Hid.mk (And.intro hr3 (And.intro (More.trans H1.out.2.1 hm3) (And.intro (More.tab H1.out.2.2 hm3) (And.intro hx3 H1.out.2.2)))); clear hr3 hk3 hm3 hget hx3))
  have her := fun m => rd_err w1.heap.size w1.heap.size t G l (w3.drewN m) (H3.out.1.more (More.drewN w3 m))
  go_quiet ((go_at_call 16; exact Calls.quiet_of_same (her _)))
  have hm4 := More.drewN w3 nq
  have hr4 := H3.out.1.more hm4
  have ht4 := More.tab H3.out.2.2.1 hm4
  have hx4 := H3.out.2.2.2.1.more hm4
  have hw4 := More.trans H3.out.2.1 hm4
  generalize w3.drewN nq = w4 at *
  obtain ⟨d0, d1, y0, y1⟩ := wcells2 hx4.mem
  have hg4 := getSeq_err w1.heap.size w1.heap.size t G l w4 hr4 ht4 (tab_pos H3.out.2.2.2.2) hG0
  have H4 := Hid.mk (And.intro hw4 (And.intro H3.out.2.2.2.2 (Nat.le_trans (H1.out.2.1).size (Nat.le_refl _))))
  clear her hm4 hr4 hx4 hw4 H3 c0 c1 z0 z1
  have HT4 := Hid.mk ht4
  clear ht4
  go_wp2_with (first
    | (go_at_call 36; refine hg4.mono ?_; rintro e w5 ⟨rfl, hr5, hk5⟩; have ht5 := hk5.tab HT4.out (tab_pos H4.out.2.1); have hp5 := getPack_err w1.heap.size w1.heap.size t G l w5 hr5 hG0; have H5 := Hid.mk (And.intro ht5 (keeps_more hk5 H4.out.1 H4.out.2.2)); clear hr5 hk5 ht5 hg4)
    | (go_at_call 26; refine hp5.mono ?_; rintro e w6 ⟨rfl, hr6, hk6⟩; have ht6 := hk6.tab H5.out.1 (tab_pos H4.out.2.1); have hs6 := getSums_err w1.heap.size w1.heap.size t G l w6 hr6 ht6 (tab_pos H4.out.2.1) hG0; have H6 := Hid.mk (And.intro ht6 (keeps_more hk6 H5.out.2 H4.out.2.2)); clear hr6 hk6 ht6 hp5)
    | (go_at_call 42; refine hs6.mono ?_; rintro e w7 ⟨rfl, hr7, hk7⟩; have ht7 := hk7.tab H6.out.1 (tab_pos H4.out.2.1); have hv7 := sb_live w7 ht7; have H7 := Hid.mk (keeps_more hk7 H6.out.2 H4.out.2.2); clear hr7 hk7 ht7 hs6)
    | (go_at_call 7; refine hv7.mono ?_; rintro e wz ⟨rfl, hmz⟩; have HZ := Hid.mk (More.trans H7.out hmz); clear hmz hv7))
  go_ret
  exact ⟨rfl, HZ.out⟩

set_option maxHeartbeats 3200000 in
set_option maxRecDepth 1000000 in
theorem sb_gets_good (l : List UInt8) (w : World) (hl : l.length ≤ 300) (hT : TabIn w) (n u t1 er1 t2 er2 t3 : Nat) (v : List UInt8) (hR : Reads l 0 n u v t1 er1 t2 er2 t3 0) (hgd : Good n u (ofB v)) :
    Calls Tryd.prog 6 #[.string (bs l)] w fun e w' => e = .returned (.bool true) ∧ More w w' := by
  have hsz : (bs l).size = l.length := bs_size l
  have hfw := hR.few rfl
  have hnb : n ≤ 2400 := by
    have h1 := hfw.2.2.1
    have h2 := le_gBits n u
    omega
  have hfew : n ≤ 4000 ∧ gBits n u ≤ 1000000 := ⟨by omega, by have := hfw.2.2.1; omega⟩
  have hd1 := docSeq_good w.heap.size w.heap.size 0 n u t1 er1 t2 er2 t3 v l _ (x_new w l (by omega)) hfew hR hgd
  have hopen := fun w => rd_open l (by omega) w
  have hget := fun base b (w' : World) (h1 : RdAt w' base b l 0 0) h2 h3 => getSeq_good base b 0 0 n u t1 er1 t2 er2 t3 v l w' h1 h2 h3 hfew (by rw [List.drop_zero]; exact hR) hgd
  have hpg := put_got hR hgd
  obtain ⟨f, hf⟩ : ∃ f, gF n u (ofB v) = f := ⟨_, rfl⟩
  obtain ⟨t, ht⟩ : ∃ t, t1 + t2 + t3 = t := ⟨_, rfl⟩
  rw [ht, hf] at hd1
  rw [hf, ht] at hpg
  simp only [hf, ht, Nat.zero_add] at hget
  have hput := fun base wb base' s (w' : World) (h1 : WrAt w' base wb []) h2 (h3 : SeqAt w' base' s f n) h4 => sb_putSeq base wb base' s f n [] w' h1 h2 h3 h4 (by omega) (by decide)
  simp only [hpg, List.nil_append] at hput
  have htl : t ≤ l.length := by
    have h1 := (st_bnd hR.one).1
    have h3 := hfw.2.2.2
    have h4 : v.length = t3 := by rw [hfw.2.1, h3.1]
    have h5 := congrArg List.length h3.2
    rw [List.length_take, List.length_drop, h4] at h5
    have h6 : t1 + t2 ≤ l.length := by
      rcases hR.two with ⟨_, _, h, _⟩ | ⟨_, h⟩
      · omega
      · have := (st_bnd h).1; rw [List.length_drop] at this; omega
    omega
  obtain ⟨M, hM⟩ : ∃ M, l.length = M := ⟨_, rfl⟩
  have hdl : (bs (l.drop t)).size = M - t := by rw [bs_size, List.length_drop, hM]
  have hdz : (l.drop t).length = M - t := by rw [List.length_drop, hM]
  obtain ⟨M2, hM2⟩ : ∃ M2, M - t = M2 := ⟨_, rfl⟩
  rw [hM2] at hdl hdz
  have e1 : (M : Int) - (M2 : Int) = (t : Int) := by omega
  have hsl := fun w => slice_to l t (t : Int) rfl htl w
  rw [hM] at hsz hl
  have HH := Hid.mk (And.intro hT (And.intro hdz (show M2 ≤ 300 by omega)))
  obtain ⟨L, hL⟩ : ∃ L, l.take t = L := ⟨_, rfl⟩
  rw [hL] at hsl
  simp only [hL] at hput
  have htM : t ≤ 300 := by omega
  have hwt : IntKind.i64.wrap (t : Int) = t := by rw [IntKind.wrap_i64]; omega
  clear hR hgd hfew hfw hpg hf ht hT hM hM2 htl hL hdz
  go_enter Tryd.func6, Tryd.ntmps6
  go_wp2_with (first
    | (go_at_call 41; refine hd1.mono ?_; rintro e w1 ⟨ws, rfl, hs1, hx1, hk1⟩; obtain ⟨aw, cw, rfl⟩ := shape_of hs1; have hm1 : More w w1 := Below.trans (More.alloc w _) hk1.below; have H1 := Hid.mk (And.intro hx1 (And.intro hm1 (And.intro (More.tab HH.out.1 hm1) hs1))); clear hx1 hk1 hm1 hd1 hs1)
    | (go_at_call 10; refine (hopen w1).mono ?_; rintro e w2 ⟨rfl, hr2, hm2⟩; have H2 := Hid.mk (And.intro hr2 (And.intro hm2 (More.tab H1.out.2.2.1 hm2))); clear hr2 hm2 hopen)
    | (go_at_call 36; refine (hget w1.heap.size w1.heap.size w2 H2.out.1 H2.out.2.2 (tab_pos H1.out.2.2.1)).mono ?_; rintro e w3 ⟨s, rfl, hs3, hr3, hk3⟩; have hm3 : More w1 w3 := Below.trans H2.out.2.1 hk3.below; have hx3 := H1.out.1.more hm3; obtain ⟨c0, c1, z0, z1⟩ := wcells2 hx3.mem; have H3 := Hid.mk (And.intro hr3 (And.intro hm3 (And.intro (More.tab H1.out.2.2.1 hm3) (And.intro hx3 hs3)))); clear hr3 hk3 hm3 hget hx3 hs3))
  have her := fun m => rd_err w1.heap.size w1.heap.size t 0 l (w3.drewN m) (H3.out.1.more (More.drewN w3 m))
  rw [Int.natCast_zero] at her
  go_quiet ((go_at_call 16; exact Calls.quiet_of_same (her _)))
  have hm4 := More.drewN w3 nq
  have H4 := Hid.mk (show RdAt (w3.drewN nq) w1.heap.size w1.heap.size l t 0 ∧ More w1 (w3.drewN nq) ∧ TabIn (w3.drewN nq) ∧ XAt (w3.drewN nq) w.heap.size w.heap.size (l.drop t) 0 ∧ SeqAt (w3.drewN nq) w2.heap.size s f n from ⟨H3.out.1.more hm4, More.trans H3.out.2.1 hm4, More.tab H3.out.2.2.1 hm4, H3.out.2.2.2.1.more hm4, H3.out.2.2.2.2.more hm4⟩)
  generalize w3.drewN nq = w4 at *
  obtain ⟨d0, d1, y0, y1⟩ := wcells2 H4.out.2.2.2.1.mem
  clear her hm4 H3 c0 c1 z0 z1
  go_wp2_with (go_at_call 34; refine (hput w4.heap.size w4.heap.size _ s _ (WrAt.new w4) (tab_pos H4.out.2.2.1) (H4.out.2.2.2.2.more (More.alloc _ _)) (More.tab H4.out.2.2.1 (More.alloc _ _))).mono ?_; rintro e w5 ⟨rfl, hw5, hk5⟩; have hm5 : More w4 w5 := Below.trans (More.alloc w4 _) (hk5.below); have H5 := Hid.mk (And.intro hw5 (And.intro hm5 (More.tab H4.out.2.2.1 hm5))); clear hw5 hk5 hm5 hput)
  go_loopw [8] (fun i wr => ∃ k : Nat, k ≤ n ∧ i = .int .i64 k ∧ Hid (More w5 wr)) (fun i _ => n - (intOf i).toNat)
  case atStart => exact ⟨0, Nat.zero_le _, rfl, Hid.mk (Below.refl _ _)⟩
  case round =>
    obtain ⟨k, hk, rfl, HR⟩ := hrel
    have hmr := More.trans H5.out.2.1 HR.out
    have hm1r := More.trans H4.out.2.1 hmr
    by_cases hkn : k < n
    · obtain ⟨g0, cg, hgs, hco, _⟩ := own_ints_at (More.own H1.out.2.2.2 hm1r) (by omega)
      obtain ⟨rfl, rfl⟩ : aw = some ⟨g0, 0, none⟩ ∧ cw = cg := by simpa using hgs
      have hck := hco k hkn
      have hat := fun (w' : World) (hm : More wr w') => el_at _ s f n (k : Int) w' (H4.out.2.2.2.2.more (More.trans hmr hm))
      rw [atZ_in f n k hkn] at hat
      obtain ⟨X, hX⟩ : ∃ X, f k = X := ⟨_, rfl⟩
      rw [hX] at hat hck
      have l1 : ∀ u : Lat wr, u.val.cell? ⟨g0, k, none⟩ = some (.int .i64 (X : Nat)) := fun u => (u.more.cell (p := ⟨g0, k, none⟩) (World.block_lt_of_cell? wr _ hck)).trans hck
      have k1 : ∀ u : Lat wr, Calls Tryd.prog 37 #[.pointer (some ⟨s, 0, none⟩), .int .i64 k] u.val fun e w' => e = .returned (.int .i64 (X : Nat)) ∧ ∃ u' : Lat wr, w' = u'.val := fun u => (hat u.val u.more).mono fun e w' ⟨he, hm⟩ => ⟨he, u.grown hm⟩
      have hne : Nonempty (Lat wr) := Lat.any wr
      clear hgs hco hck hX hmr hat hm1r
      go_wp2
      refine wp_region_lat (by kernel_rfl) (by kernel_rfl) ?_
      repeat (quiet_step ((go_at_call 37; exact k1 _)))
      refine wpQuiet_nil ?_
      rintro _ ⟨u, rfl⟩
      have HU := Hid.mk (More.trans HR.out u.more)
      clear l1 k1
      go_wp2
      exact ⟨⟨k + 1, by omega, by go_num, HU⟩, by simp [intOf]; omega⟩
    · obtain rfl : n = k := by omega
      have hx := H4.out.2.2.2.1.more hmr
      obtain ⟨f0, f1, g0, g1⟩ := wcells2 hx.mem
      have l0 : ∀ u : Lat wr, u.val.cell? ⟨w.heap.size, 0, none⟩ = some (.string (bs (l.drop t))) := fun u => (u.more.cell (p := ⟨w.heap.size, 0, none⟩) (World.block_lt_of_cell? wr _ f0)).trans f0
      have k1 : ∀ u : Lat wr, Calls Tryd.prog 38 #[.pointer (some ⟨s, 0, none⟩)] u.val fun e w' => e = .returned (.int .i64 (n : Nat)) ∧ ∃ u' : Lat wr, w' = u'.val := fun u => (el_len _ s f n u.val (H4.out.2.2.2.2.more (More.trans hmr u.more))).mono fun e w' ⟨he, hw⟩ => ⟨he, u, hw⟩
      have k2 : ∀ u : Lat wr, Calls Tryd.prog 15 #[.pointer (some ⟨w1.heap.size, 0, none⟩)] u.val fun e w' => e = .returned (.int .i64 (M2 : Nat)) ∧ ∃ u' : Lat wr, w' = u'.val := fun u => by
        have := rd_left w1.heap.size w1.heap.size t 0 l u.val (H4.out.1.more (More.trans hmr u.more))
        rw [HH.out.2.1] at this
        exact this.mono fun e w' ⟨he, m, hw⟩ => ⟨he, by rw [hw]; exact u.drawn m⟩
      have k3 : ∀ u : Lat wr, Calls Tryd.prog 11 #[.pointer (some ⟨w4.heap.size, 0, none⟩)] u.val fun e w' => e = .returned (.string (bs L)) ∧ ∃ u' : Lat wr, w' = u'.val := fun u => (wr_bytes w4.heap.size w4.heap.size L u.val (H5.out.1.more (More.trans HR.out u.more))).mono fun e w' ⟨he, hw⟩ => ⟨he, u, hw⟩
      have k4 : ∀ u : Lat wr, Calls Tryd.prog 7 #[] u.val fun e w' => e = .returned (.bool true) ∧ ∃ u' : Lat wr, w' = u'.val := fun u => (sb_live u.val (More.tab H5.out.2.2 (More.trans HR.out u.more))).mono fun e w' ⟨he, hm⟩ => ⟨he, u.grown hm⟩
      have hne : Nonempty (Lat wr) := Lat.any wr
      have HM := Hid.mk hm1r
      clear hx f1 g0 g1 hmr hm1r f0 hkn hk
      go_wp2
      refine wp_region_lat (by kernel_rfl) (by kernel_rfl) ?_
      repeat (quiet_step ((first | (go_at_call 38; exact k1 _) | (go_at_call 15; exact k2 _) | (go_at_call 11; exact k3 _) | (go_at_call 7; exact k4 _))))
      refine wpQuiet_nil ?_
      rintro _ ⟨u, rfl⟩
      have HU := Hid.mk (More.trans H1.out.2.1 (More.trans HM.out u.more))
      clear l0 k1 k2 k3 k4
      go_wp2
      go_ret
      exact ⟨rfl, HU.out⟩

set_option maxRecDepth 1000000 in
theorem seqbinGets (l : List UInt8) (w : World) (hT : TabIn w) : Calls Tryd.prog 6 #[.string (bs l)] w fun e w' => e = .returned (.bool true) ∧ More w w' := by
  by_cases hl : l.length ≤ 300
  · obtain ⟨n, u, v, t1, er1, t2, er2, t3, er, hR⟩ := reads_any l 0
    have hfew : er = 0 → n ≤ 4000 ∧ gBits n u ≤ 1000000 := fun h0 => by
      have h1 := (hR.few h0).2.2.1
      have h2 := le_gBits n u
      exact ⟨by omega, by omega⟩
    by_cases hg : er = 0 ∧ Good n u (ofB v)
    · obtain ⟨rfl, hg⟩ := hg
      exact sb_gets_good l w hl hT n u t1 er1 t2 er2 t3 v hR hg
    · exact sb_gets_bad l w hl hT n u t1 er1 t2 er2 t3 er v hR hfew hg
  · have hsz : (bs l).size = l.length := bs_size l
    have hv := sb_live w hT
    generalize l.length = M at *
    clear hT
    go_enter Tryd.func6, Tryd.ntmps6
    go_wp2_with (go_at_call 7; refine hv.mono ?_; rintro e wz ⟨rfl, hmz⟩; have HZ := Hid.mk hmz; clear hmz)
    go_ret
    exact ⟨rfl, HZ.out⟩

end Go.Proofs.YtbfolfacppbalaaDoor
