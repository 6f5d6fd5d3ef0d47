/-
  seqbin's GetSums.
-/
import Derived.Test.YtbjgbigalfhnjaaGreatDoorSbSteps
import Derived.Test.YtbjgbigalfhnjaaGreatDoorSbLive
namespace Go.Proofs.YtbjgbigalfhnjaaGreatDoor
open Go.RowKit

/-- What is wrong in the end. -/
def uErr (er : Nat) : Nat := if er = 0 then 3 else er
theorem uErr_ne (er : Nat) : uErr er ≠ 0 := by unfold uErr; split <;> omega
theorem seq_bad (base b a E n u t1 er1 t2 er2 t3 er : Nat) (v l : List UInt8) (w : World) (h : RdAt w base b l a E) (hT : TabIn w) (hb0 : 0 < base) (hfew : er = 0 → n ≤ 4000 ∧ gBits n u ≤ 1000000) (hR : Reads (l.drop a) E n u v t1 er1 t2 er2 t3 er) (hbad : ¬ (er = 0 ∧ Good n u (ofB v))) :
    Calls Tryz.prog 21 #[.pointer (some ⟨b, 0, none⟩)] w fun e w' => e = .returned (.pointer none) ∧ RdAt w' base b l (a + (t1 + t2 + t3)) (uErr er) ∧ KeepsT RT base w w' :=
  (sb_getSeq base b a E n u t1 er1 t2 er2 t3 er v l w h hT hb0 hfew hR).mono fun e w' hg => by
    rcases hg.what with ⟨h1, h2, h3⟩ | ⟨h1, h2, _⟩ | ⟨h1, _, h2, h3⟩
    · exact ⟨h2, by unfold uErr; rw [if_neg h1]; exact h3, hg.keeps⟩
    · exact absurd ⟨h1, h2⟩ hbad
    · exact ⟨h2, by unfold uErr; rw [if_pos h1]; exact h3, hg.keeps⟩
theorem seq_good (base b a E n u t1 er1 t2 er2 t3 : Nat) (v l : List UInt8) (w : World) (h : RdAt w base b l a E) (hT : TabIn w) (hb0 : 0 < base) (hfew : n ≤ 4000 ∧ gBits n u ≤ 1000000) (hR : Reads (l.drop a) E n u v t1 er1 t2 er2 t3 0) (hgd : Good n u (ofB v)) :
    Calls Tryz.prog 21 #[.pointer (some ⟨b, 0, none⟩)] w fun e w' => ∃ s, e = .returned (.pointer (some ⟨s, 0, none⟩)) ∧ SeqAt w' w.heap.size s (gF n u (ofB v)) n ∧ RdAt w' base b l (a + (t1 + t2 + t3)) 0 ∧ KeepsT RT base w w' :=
  (sb_getSeq base b a E n u t1 er1 t2 er2 t3 0 v l w h hT hb0 (fun _ => hfew) hR).mono fun e w' hg => by
    rcases hg.what with ⟨h1, _⟩ | ⟨_, _, h2, s, h3, h4⟩ | ⟨_, h1, _⟩
    · exact absurd rfl h1
    · exact ⟨s, h3, h4, h2, hg.keeps⟩
    · exact absurd hgd h1

theorem sm_stp {f : Nat → Nat} {n : Nat} (h : Climbs f n) (h0 : f 0 = 0) : ∀ k, k < n → sm (stp f) k = f k
  | 0, _ => h0.symm
  | k + 1, hk => by
    have := h.up k hk
    rw [sm, sm_stp h h0 k (by omega), stp]
    omega

theorem sums_bad (base b a E n u t1 er1 t2 er2 t3 er : Nat) (v l : List UInt8) (w : World) (h : RdAt w base b l a E) (hT : TabIn w) (hb0 : 0 < base) (hfew : er = 0 → n ≤ 4000 ∧ gBits n u ≤ 1000000) (hR : Reads (l.drop a) E n u v t1 er1 t2 er2 t3 er) (hbad : ¬ (er = 0 ∧ Good n u (ofB v))) :
    Calls Tryz.prog 8 #[.pointer (some ⟨b, 0, none⟩)] w fun e w' => e = .returned (.pointer none) ∧ RdAt w' base b l (a + (t1 + t2 + t3)) (uErr er) ∧ KeepsT RT base w w' := by
  have h1 := seq_bad base b a E n u t1 er1 t2 er2 t3 er v l w h hT hb0 hfew hR hbad
  clear h hT hfew hR hbad
  go_enter Tryz.func8, Tryz.ntmps8
  go_wp2_with (go_at_call 21; refine h1.mono ?_; rintro e w1 ⟨rfl, hr1, hk1⟩; have H1 := Hid.mk (And.intro hr1 hk1); clear hr1 hk1 h1)
  go_ret
  exact ⟨rfl, H1.out.1, H1.out.2⟩

/-- Numbers, but no sums. -/
theorem sums_form (base b a E n u t1 er1 t2 er2 t3 : Nat) (v l : List UInt8) (w : World) (h : RdAt w base b l a E) (hT : TabIn w) (hb0 : 0 < base) (hfew : n ≤ 4000 ∧ gBits n u ≤ 1000000) (hR : Reads (l.drop a) E n u v t1 er1 t2 er2 t3 0) (hgd : Good n u (ofB v)) (hno : n = 0 ∨ gF n u (ofB v) 0 ≠ 0) :
    Calls Tryz.prog 8 #[.pointer (some ⟨b, 0, none⟩)] w fun e w' => e = .returned (.pointer none) ∧ RdAt w' base b l (a + (t1 + t2 + t3)) 3 ∧ KeepsT RT base w w' := by
  have h1 := seq_good base b a E n u t1 er1 t2 er2 t3 v l w h hT hb0 hfew hR hgd
  obtain ⟨f, hf⟩ : ∃ f, gF n u (ofB v) = f := ⟨_, rfl⟩
  rw [hf] at h1 hno
  obtain ⟨t, ht⟩ : ∃ t, t1 + t2 + t3 = t := ⟨_, rfl⟩
  rw [ht] at h1 ⊢
  have hat := fun base' s (w' : World) (hs : SeqAt w' base' s f n) => el_at base' s f n 0 w' hs
  obtain ⟨X, hX⟩ : ∃ X, atZ f n 0 = X := ⟨_, rfl⟩
  have hX0 : ¬ X = 0 := by
    rw [← hX]
    by_cases h0 : n = 0
    · rw [atZ_out f n 0 (by omega)]; decide
    · have := atZ_in f n 0 (by omega)
      rw [show ((0 : Nat) : Int) = 0 from rfl] at this
      rw [this]
      rcases hno with h | h
      · exact absurd h h0
      · omega
  simp only [hX] at hat
  clear h hT hfew hR hgd hno hf ht hX
  go_enter Tryz.func8, Tryz.ntmps8
  go_wp2_with (first
    | (go_at_call 21; refine h1.mono ?_; rintro e w1 ⟨s, rfl, hs1, hr1, hk1⟩; have ha1 := hat _ s w1 hs1; have H1 := Hid.mk (And.intro hr1 hk1); clear hr1 hk1 h1 hs1 hat)
    | (go_at_call 23; refine ha1.mono ?_; rintro e w2 ⟨rfl, hm2⟩; have hfl := rd_fail base b (a + t) 0 3 l w2 (H1.out.1.more hm2); rw [if_pos rfl] at hfl; have H2 := Hid.mk (H1.out.2.trans (KeepsT.more hm2 H1.out.1.sz)); clear hm2 ha1)
    | (go_at_call 27; refine hfl.mono ?_; rintro e w3 ⟨rfl, hr3, hk3⟩; have H3 := Hid.mk (And.intro hr3 (H2.out.trans hk3)); clear hr3 hk3 hfl))
  go_ret
  exact ⟨rfl, H3.out.1, H3.out.2⟩

theorem sums_good (base b a E n u t1 er1 t2 er2 t3 : Nat) (v l : List UInt8) (w : World) (h : RdAt w base b l a E) (hT : TabIn w) (hb0 : 0 < base) (hfew : n ≤ 3900 ∧ gBits n u ≤ 1000000) (hR : Reads (l.drop a) E n u v t1 er1 t2 er2 t3 0) (hgd : Good n u (ofB v)) (hn0 : 0 < n) (hf0 : gF n u (ofB v) 0 = 0) :
    Calls Tryz.prog 8 #[.pointer (some ⟨b, 0, none⟩)] w fun e w' => ∃ q, e = .returned (.pointer (some ⟨q, 0, none⟩)) ∧ PxAt w' w.heap.size q (stp (gF n u (ofB v))) (n - 1) ∧ RdAt w' base b l (a + (t1 + t2 + t3)) 0 ∧ KeepsT RT base w w' := by
  have h1 := seq_good base b a E n u t1 er1 t2 er2 t3 v l w h hT hb0 ⟨by omega, hfew.2⟩ hR hgd
  have hcl := hgd.climbs
  obtain ⟨f, hf⟩ : ∃ f, gF n u (ofB v) = f := ⟨_, rfl⟩
  rw [hf] at h1 hf0 hcl ⊢
  obtain ⟨t, ht⟩ : ∃ t, t1 + t2 + t3 = t := ⟨_, rfl⟩
  rw [ht] at h1 ⊢
  have hn9 := hfew.1
  have hsm : sm (stp f) (n - 1) ≤ 1099511627776 := by rw [sm_stp hcl hf0 (n - 1) (by omega)]; exact hcl.top _ (by omega)
  have hat := fun base' s (w' : World) (hs : SeqAt w' base' s f n) => el_at base' s f n 0 w' hs
  have hz := atZ_in f n 0 hn0
  rw [hf0, show ((0 : Nat) : Int) = 0 from rfl] at hz
  simp only [hz] at hat
  have hst := fun base' s (w' : World) (hs : SeqAt w' base' s f n) hT' => (callsIn_wide (n := 16)).1 (sb_steps 16 (Nat.le_refl _) base' s f n w' hs hT' hn0)
  have hnew := fun vv (w' : World) (h : ZRd w' vv (n - 1) (fun j => (stp f j : Int))) => px_new vv (n - 1) (stp f) w' h (by omega) hsm
  obtain ⟨N, hN⟩ : ∃ N, n - 1 = N := ⟨_, rfl⟩
  simp only [hN] at hst hnew
  rw [hN]
  have HH := Hid.mk (And.intro hT hb0)
  clear h hT hfew hR hgd hf ht hz hN hcl hsm hf0 hn0 hb0
  go_enter Tryz.func8, Tryz.ntmps8
  go_wp2_with (first
    | (go_at_call 21; refine h1.mono ?_; rintro e w1 ⟨s, rfl, hs1, hr1, hk1⟩; have ha1 := hat _ s w1 hs1; have H1 := Hid.mk (And.intro hr1 (And.intro hk1 (And.intro hs1 (hk1.tab HH.out.1 HH.out.2)))); clear hr1 hk1 h1 hs1 hat)
    | (go_at_call 23; refine ha1.mono ?_; rintro e w2 ⟨rfl, hm2⟩; have hst2 := hst _ s w2 (H1.out.2.2.1.more hm2) (More.tab H1.out.2.2.2 hm2); have H2 := Hid.mk hm2; clear hm2 ha1 hst)
    | (go_at_call 28; refine hst2.mono ?_; rintro e w3 ⟨v3, rfl, ho3, hm3⟩; obtain ⟨a3, c3, rfl⟩ := shape_of ho3; have hnw := hnew _ w3 (zrd_own ho3); have H3 := Hid.mk (More.trans H2.out hm3); clear ho3 hm3 hst2 hnew)
    | (go_at_call 6; refine hnw.mono ?_; rintro e w4 ⟨q, rfl, hq4, hm4⟩; have H4 := Hid.mk (And.intro hq4 (More.trans H3.out hm4)); clear hq4 hm4 hnw))
  go_ret
  obtain ⟨s4, h41, h42⟩ := H4.out.1.mem
  exact ⟨q, rfl, ⟨H4.out.1.top, H4.out.1.num, s4, h41, h42.lower (Nat.le_trans H1.out.2.1.below.size H3.out.size)⟩, H1.out.1.more H4.out.2, H1.out.2.1.trans (KeepsT.more H4.out.2 H1.out.1.sz)⟩

end Go.Proofs.YtbjgbigalfhnjaaGreatDoor
