/-
  The chapter's example, told by the program.
  seqbin's GetSums.
  prefix's All, walked: the numbers of a sequence, each with its place, as long as it is told to go on.
-/
import Derived.Test.YtbjgbigalfhnjaaGreatDoorSet23
import Derived.Test.YtbjgbigalfhnjaaGreatDoorSet20
import Derived.Test.YtbjgbigalfhnjaaGreatDoorSet19
namespace Go.Proofs.YtbjgbigalfhnjaaGreatDoor
open Go.RowKit

def f3 (i : Nat) : Nat := if i = 0 then 3 else if i = 1 then 4 else 7
theorem f3_climbs : Climbs f3 3 := ⟨fun i hi => by unfold f3; split; decide; split <;> decide, fun i hi => by
  rcases (show i = 0 ∨ i = 1 by omega) with rfl | rfl <;> decide⟩
theorem f3_bytes : seqB f3 3 = [3, 7, 85, 1] := by
  rw [seqB_some f3 (by decide), num_small (by decide), num_small (by decide), show rby (seqV f3 (wdt f3 3) 3) (seqN f3 (wdt f3 3) 3) = [85, 1] by decide]
  decide
theorem keeps_more {T : TypeId → Prop} {base : Nat} {w w1 w2 : World} (k : KeepsT T base w1 w2) (hm : More w w1) (hb : w.heap.size ≤ base) : More w w2 := Below.trans hm (k.below.mono hb)
theorem lit3 (w : World) : ZRd (w.alloc (.cells #[.int .i64 3, .int .i64 4, .int .i64 7] 3)) (.slice (some ⟨w.heap.size, 0, none⟩) 3 3) 3 (fun j => (f3 j : Int)) := by
  refine .inr ⟨w.heap.size, 0, 3, rfl, by simp, fun j hj => ?_⟩
  have h := heap_alloc_new w (.cells #[.int .i64 3, .int .i64 4, .int .i64 7] 3)
  rcases (show j = 0 ∨ j = 1 ∨ j = 2 by omega) with rfl | rfl | rfl <;> (simp only [World.cell?]; rw [h]; rfl)

set_option maxHeartbeats 1600000 in
set_option maxRecDepth 1000000 in
theorem sb_live (w : World) (hT : TabIn w) : Calls Tryz.prog 4 #[] w fun e w' => e = .returned (.bool true) ∧ More w w' := by
  have hb0 := tab_pos hT
  have hnew := fun w1 => el_new _ 3 f3 (w1.alloc (.cells #[.int .i64 3, .int .i64 4, .int .i64 7] 3)) (lit3 w1) f3_climbs (by decide)
  have hopen : ∀ w, Calls Tryz.prog 9 #[.string { data := #[3, 7, 85, 1] }] w fun e w' => e = .returned (.pointer (some ⟨w.heap.size, 0, none⟩)) ∧ RdAt w' w.heap.size w.heap.size [3, 7, 85, 1] 0 0 ∧ More w w' := fun w => rd_open [3, 7, 85, 1] (by decide) w
  have hbytes : ∀ base b (w1 : World), WrAt w1 base b [3, 7, 85, 1] → Calls Tryz.prog 10 #[.pointer (some ⟨b, 0, none⟩)] w1 fun e w' => e = .returned (.string { data := #[3, 7, 85, 1] }) ∧ w' = w1 := fun base b w1 h => wr_bytes base b [3, 7, 85, 1] w1 h
  have HH := Hid.mk hT
  clear hT
  go_enter Tryz.func4, Tryz.ntmps4
  go_wp2_with (first
    | (go_at_call 20; refine (hnew _).mono ?_; rintro e w1 ⟨s, rfl, hs1, hm1⟩; have hw1 := More.trans (More.alloc w _) hm1; have H1 := Hid.mk (And.intro hs1 (And.intro hw1 (More.tab HH.out hw1))); clear hs1 hm1 hw1)
    | (go_at_call 19; refine (sb_putSeq w1.heap.size w1.heap.size _ s f3 3 [] _ (WrAt.new w1) (tab_pos H1.out.2.2) (H1.out.1.more (More.alloc _ _)) (More.tab H1.out.2.2 (More.alloc _ _)) (by decide) (by decide)).mono ?_; rintro e w2 ⟨rfl, hw2, hk2⟩; rw [List.nil_append, f3_bytes] at hw2; have hm2 : More w1 w2 := Below.trans (More.alloc w1 _) (hk2.below); have H2 := Hid.mk (And.intro hw2 (And.intro hm2 (More.tab H1.out.2.2 hm2))); clear hw2 hk2 hm2)
    | (go_at_call 9; refine (hopen w2).mono ?_; rintro e w3 ⟨rfl, hr3, hm3⟩; have H3 := Hid.mk (And.intro hr3 (And.intro hm3 (More.tab H2.out.2.2 hm3))); clear hr3 hm3)
    | (go_at_call 21; refine (sb_getBack f3_climbs (by decide) w2.heap.size w2.heap.size [] [3, 7, 85, 1] w3 (by rw [f3_bytes, List.append_nil]) H3.out.1 H3.out.2.2 (tab_pos H2.out.2.2)).mono ?_; rintro e w4 ⟨q, g, rfl, hq4, hg4, hr4, hk4⟩; have hm4 : More w2 w4 := Below.trans H3.out.2.1 hk4.below
       have hA1 := fun w h => el_at w3.heap.size q g 3 1 w h
       have hA2 := fun w h => el_last w3.heap.size q g 3 w h
       rw [show atZ g 3 1 = 4 by rw [show (1 : Int) = ((1 : Nat) : Int) from rfl, atZ_in g 3 1 (by decide), hg4 1 (by decide)]; rfl] at hA1
       rw [show atZ g 3 (((3 : Nat) : Int) - 1) = 7 by rw [show ((3 : Nat) : Int) - 1 = ((2 : Nat) : Int) from rfl, atZ_in g 3 2 (by decide), hg4 2 (by decide)]; rfl] at hA2
       have H4 := Hid.mk (And.intro hq4 (And.intro hm4 (H2.out.1.more hm4))); clear hq4 hg4 hr4 hk4 hm4)
    | (go_at_call 10; refine (hbytes _ _ w4 H4.out.2.2).mono ?_; rintro e w' ⟨rfl, hw⟩; subst w')
    | (go_at_call 22; refine (el_len _ q g 3 w4 H4.out.1).mono ?_; rintro e w' ⟨rfl, hw⟩; subst w')
    | (go_at_call 23; refine (hA1 w4 H4.out.1).mono ?_; rintro e w5 ⟨rfl, hm5⟩; have H5 := Hid.mk hm5; clear hm5 hA1)
    | (go_at_call 24; refine (hA2 w5 (H4.out.1.more H5.out)).mono ?_; rintro e w6 ⟨rfl, hm6⟩; have H6 := Hid.mk (More.trans H5.out hm6); clear hm6 hA2))
  go_ret
  exact ⟨rfl, More.trans (More.trans (More.trans H1.out.2.1 H2.out.2.1) H4.out.2.1) H6.out⟩

end Go.Proofs.YtbjgbigalfhnjaaGreatDoor

namespace Go.Proofs.YtbjgbigalfhnjaaGreatDoor
open Go.RowKit

/-- What is wrong in the end. -/
def uErr (er : Nat) : Nat := if er = 0 then 3 else er
theorem uErr_ne (er : Nat) : uErr er ≠ 0 := by unfold uErr; split <;> omega
theorem seq_bad (base b a E n u t1 er1 t2 er2 t3 er : Nat) (v l : List UInt8) (w : World) (h : RdAt w base b l a E) (hT : TabIn w) (hb0 : 0 < base) (hfew : er = 0 → n ≤ 4000 ∧ gBits n u ≤ 1000000) (hR : Reads (l.drop a) E n u v t1 er1 t2 er2 t3 er) (hbad : ¬ (er = 0 ∧ Good n u (ofB v))) :
    Calls Tryz.prog 21 #[.pointer (some ⟨b, 0, none⟩)] w fun e w' => e = .returned (.pointer none) ∧ RdAt w' base b l (a + (t1 + t2 + t3)) (uErr er) ∧ KeepsT RT base w w' :=
  (sb_getSeq base b a E n u t1 er1 t2 er2 t3 er v l w h hT hb0 hfew hR).mono fun e w' hg => by
    rcases hg.what with ⟨h1, h2, h3⟩ | ⟨h1, h2, _⟩ | ⟨h1, _, h2, h3⟩
    · exact ⟨h2, by unfold uErr; rw [if_neg h1]; exact h3, hg.keeps⟩
    · exact absurd ⟨h1, h2⟩ hbad
    · exact ⟨h2, by unfold uErr; rw [if_pos h1]; exact h3, hg.keeps⟩
theorem seq_good (base b a E n u t1 er1 t2 er2 t3 : Nat) (v l : List UInt8) (w : World) (h : RdAt w base b l a E) (hT : TabIn w) (hb0 : 0 < base) (hfew : n ≤ 4000 ∧ gBits n u ≤ 1000000) (hR : Reads (l.drop a) E n u v t1 er1 t2 er2 t3 0) (hgd : Good n u (ofB v)) :
    Calls Tryz.prog 21 #[.pointer (some ⟨b, 0, none⟩)] w fun e w' => ∃ s, e = .returned (.pointer (some ⟨s, 0, none⟩)) ∧ SeqAt w' w.heap.size s (gF n u (ofB v)) n ∧ RdAt w' base b l (a + (t1 + t2 + t3)) 0 ∧ KeepsT RT base w w' :=
  (sb_getSeq base b a E n u t1 er1 t2 er2 t3 0 v l w h hT hb0 (fun _ => hfew) hR).mono fun e w' hg => by
    rcases hg.what with ⟨h1, _⟩ | ⟨_, _, h2, s, h3, h4⟩ | ⟨_, h1, _⟩
    · exact absurd rfl h1
    · exact ⟨s, h3, h4, h2, hg.keeps⟩
    · exact absurd hgd h1

theorem sm_stp {f : Nat → Nat} {n : Nat} (h : Climbs f n) (h0 : f 0 = 0) : ∀ k, k < n → sm (stp f) k = f k
  | 0, _ => h0.symm
  | k + 1, hk => by
    have := h.up k hk
    rw [sm, sm_stp h h0 k (by omega), stp]
    omega

theorem sums_bad (base b a E n u t1 er1 t2 er2 t3 er : Nat) (v l : List UInt8) (w : World) (h : RdAt w base b l a E) (hT : TabIn w) (hb0 : 0 < base) (hfew : er = 0 → n ≤ 4000 ∧ gBits n u ≤ 1000000) (hR : Reads (l.drop a) E n u v t1 er1 t2 er2 t3 er) (hbad : ¬ (er = 0 ∧ Good n u (ofB v))) :
    Calls Tryz.prog 8 #[.pointer (some ⟨b, 0, none⟩)] w fun e w' => e = .returned (.pointer none) ∧ RdAt w' base b l (a + (t1 + t2 + t3)) (uErr er) ∧ KeepsT RT base w w' := by
  have h1 := seq_bad base b a E n u t1 er1 t2 er2 t3 er v l w h hT hb0 hfew hR hbad
  clear h hT hfew hR hbad
  go_enter Tryz.func8, Tryz.ntmps8
  go_wp2_with (go_at_call 21; refine h1.mono ?_; rintro e w1 ⟨rfl, hr1, hk1⟩; have H1 := Hid.mk (And.intro hr1 hk1); clear hr1 hk1 h1)
  go_ret
  exact ⟨rfl, H1.out.1, H1.out.2⟩

/-- Numbers, but no sums. -/
theorem sums_form (base b a E n u t1 er1 t2 er2 t3 : Nat) (v l : List UInt8) (w : World) (h : RdAt w base b l a E) (hT : TabIn w) (hb0 : 0 < base) (hfew : n ≤ 4000 ∧ gBits n u ≤ 1000000) (hR : Reads (l.drop a) E n u v t1 er1 t2 er2 t3 0) (hgd : Good n u (ofB v)) (hno : n = 0 ∨ gF n u (ofB v) 0 ≠ 0) :
    Calls Tryz.prog 8 #[.pointer (some ⟨b, 0, none⟩)] w fun e w' => e = .returned (.pointer none) ∧ RdAt w' base b l (a + (t1 + t2 + t3)) 3 ∧ KeepsT RT base w w' := by
  have h1 := seq_good base b a E n u t1 er1 t2 er2 t3 v l w h hT hb0 hfew hR hgd
  obtain ⟨f, hf⟩ : ∃ f, gF n u (ofB v) = f := ⟨_, rfl⟩
  rw [hf] at h1 hno
  obtain ⟨t, ht⟩ : ∃ t, t1 + t2 + t3 = t := ⟨_, rfl⟩
  rw [ht] at h1 ⊢
  have hat := fun base' s (w' : World) (hs : SeqAt w' base' s f n) => el_at base' s f n 0 w' hs
  obtain ⟨X, hX⟩ : ∃ X, atZ f n 0 = X := ⟨_, rfl⟩
  have hX0 : ¬ X = 0 := by
    rw [← hX]
    by_cases h0 : n = 0
    · rw [atZ_out f n 0 (by omega)]; decide
    · have := atZ_in f n 0 (by omega)
      rw [show ((0 : Nat) : Int) = 0 from rfl] at this
      rw [this]
      rcases hno with h | h
      · exact absurd h h0
      · omega
  simp only [hX] at hat
  clear h hT hfew hR hgd hno hf ht hX
  go_enter Tryz.func8, Tryz.ntmps8
  go_wp2_with (first
    | (go_at_call 21; refine h1.mono ?_; rintro e w1 ⟨s, rfl, hs1, hr1, hk1⟩; have ha1 := hat _ s w1 hs1; have H1 := Hid.mk (And.intro hr1 hk1); clear hr1 hk1 h1 hs1 hat)
    | (go_at_call 23; refine ha1.mono ?_; rintro e w2 ⟨rfl, hm2⟩; have hfl := rd_fail base b (a + t) 0 3 l w2 (H1.out.1.more hm2); rw [if_pos rfl] at hfl; have H2 := Hid.mk (H1.out.2.trans (KeepsT.more hm2 H1.out.1.sz)); clear hm2 ha1)
    | (go_at_call 27; refine hfl.mono ?_; rintro e w3 ⟨rfl, hr3, hk3⟩; have H3 := Hid.mk (And.intro hr3 (H2.out.trans hk3)); clear hr3 hk3 hfl))
  go_ret
  exact ⟨rfl, H3.out.1, H3.out.2⟩

theorem sums_good (base b a E n u t1 er1 t2 er2 t3 : Nat) (v l : List UInt8) (w : World) (h : RdAt w base b l a E) (hT : TabIn w) (hb0 : 0 < base) (hfew : n ≤ 3900 ∧ gBits n u ≤ 1000000) (hR : Reads (l.drop a) E n u v t1 er1 t2 er2 t3 0) (hgd : Good n u (ofB v)) (hn0 : 0 < n) (hf0 : gF n u (ofB v) 0 = 0) :
    Calls Tryz.prog 8 #[.pointer (some ⟨b, 0, none⟩)] w fun e w' => ∃ q, e = .returned (.pointer (some ⟨q, 0, none⟩)) ∧ PxAt w' w.heap.size q (stp (gF n u (ofB v))) (n - 1) ∧ RdAt w' base b l (a + (t1 + t2 + t3)) 0 ∧ KeepsT RT base w w' := by
  have h1 := seq_good base b a E n u t1 er1 t2 er2 t3 v l w h hT hb0 ⟨by omega, hfew.2⟩ hR hgd
  have hcl := hgd.climbs
  obtain ⟨f, hf⟩ : ∃ f, gF n u (ofB v) = f := ⟨_, rfl⟩
  rw [hf] at h1 hf0 hcl ⊢
  obtain ⟨t, ht⟩ : ∃ t, t1 + t2 + t3 = t := ⟨_, rfl⟩
  rw [ht] at h1 ⊢
  have hn9 := hfew.1
  have hsm : sm (stp f) (n - 1) ≤ 1099511627776 := by rw [sm_stp hcl hf0 (n - 1) (by omega)]; exact hcl.top _ (by omega)
  have hat := fun base' s (w' : World) (hs : SeqAt w' base' s f n) => el_at base' s f n 0 w' hs
  have hz := atZ_in f n 0 hn0
  rw [hf0, show ((0 : Nat) : Int) = 0 from rfl] at hz
  simp only [hz] at hat
  have hst := fun base' s (w' : World) (hs : SeqAt w' base' s f n) hT' => (callsIn_wide (n := 16)).1 (sb_steps 16 (Nat.le_refl _) base' s f n w' hs hT' hn0)
  have hnew := fun vv (w' : World) (h : ZRd w' vv (n - 1) (fun j => (stp f j : Int))) => px_new vv (n - 1) (stp f) w' h (by omega) hsm
  obtain ⟨N, hN⟩ : ∃ N, n - 1 = N := ⟨_, rfl⟩
  simp only [hN] at hst hnew
  rw [hN]
  have HH := Hid.mk (And.intro hT hb0)
  clear h hT hfew hR hgd hf ht hz hN hcl hsm hf0 hn0 hb0
  go_enter Tryz.func8, Tryz.ntmps8
  go_wp2_with (first
    | (go_at_call 21; refine h1.mono ?_; rintro e w1 ⟨s, rfl, hs1, hr1, hk1⟩; have ha1 := hat _ s w1 hs1; have H1 := Hid.mk (And.intro hr1 (And.intro hk1 (And.intro hs1 (hk1.tab HH.out.1 HH.out.2)))); clear hr1 hk1 h1 hs1 hat)
    | (go_at_call 23; refine ha1.mono ?_; rintro e w2 ⟨rfl, hm2⟩; have hst2 := hst _ s w2 (H1.out.2.2.1.more hm2) (More.tab H1.out.2.2.2 hm2); have H2 := Hid.mk hm2; clear hm2 ha1 hst)
    | (go_at_call 28; refine hst2.mono ?_; rintro e w3 ⟨v3, rfl, ho3, hm3⟩; obtain ⟨a3, c3, rfl⟩ := shape_of ho3; have hnw := hnew _ w3 (zrd_own ho3); have H3 := Hid.mk (More.trans H2.out hm3); clear ho3 hm3 hst2 hnew)
    | (go_at_call 6; refine hnw.mono ?_; rintro e w4 ⟨q, rfl, hq4, hm4⟩; have H4 := Hid.mk (And.intro hq4 (More.trans H3.out hm4)); clear hq4 hm4 hnw))
  go_ret
  obtain ⟨s4, h41, h42⟩ := H4.out.1.mem
  exact ⟨q, rfl, ⟨H4.out.1.top, H4.out.1.num, s4, h41, h42.lower (Nat.le_trans H1.out.2.1.below.size H3.out.size)⟩, H1.out.1.more H4.out.2, H1.out.2.1.trans (KeepsT.more H4.out.2 H1.out.1.sz)⟩

end Go.Proofs.YtbjgbigalfhnjaaGreatDoor

namespace Go.Proofs.YtbjgbigalfhnjaaGreatDoor
open Go.RowKit Go.Shelf
attribute [local go_sem] Oper.semAt_some

theorem pall_call (n q : Nat) (w : World) : CallsIn Fence.wide n Tryz.prog 26 #[.pointer (some ⟨q, 0, none⟩)] w fun e w' => e = .returned (.func (.func 61) #[] #[.pointer (some ⟨w.heap.size, 0, none⟩)]) ∧ w' = w.alloc (.cells #[.pointer (some ⟨q, 0, none⟩)] 26) := by
  refine callsIn_of_wp Tryz.func26 rfl trivial ?_ rfl
  simp only [Tryz.ntmps26, List.size_toArray, List.length_cons, List.length_nil, Nat.reduceAdd, Nat.reduceSub, Array.replicate_succ, Array.replicate_zero, List.push_toArray, List.append_toArray, List.nil_append, List.cons_append]
  gi_wp2
  go_ret
  exact ⟨rfl, rfl⟩

/-- The next one of a list that goes on. -/
theorem next_of {f : Nat → Nat} {pre : List (Int × Int)} {x1 x2 : Int} {c : Nat} (h : pre ++ [(x1, x2)] = allZ f c) : c = pre.length + 1 ∧ x1 = (pre.length : Int) ∧ x2 = (f pre.length : Int) := by
  have hl := congrArg List.length h
  rw [allZ_len] at hl
  simp at hl
  subst hl
  rw [allZ_succ] at h
  have := (List.append_inj' h rfl).2
  simp at this
  exact ⟨rfl, this.1, this.2⟩

/-- What All has laid, between two rounds; k sums have been handed over; none of it is the caller's. -/
structure PxSt (B : Nat) (wA : World) (l s k : Nat) (f : Nat → Nat) (C : Nat → Prop) (w : World) : Prop where
  b2 : Boxed w B 94 (.func (.yield l) #[] #[])
  b3 : Boxed w (B + 1) 3 (.int .i64 (sm f (k - 1) : Nat))
  b4 : Boxed w (B + 1 + 1) 49 (.pointer (some ⟨s, 0, none⟩))
  more : More wA w
  n2 : ¬ C B
  n3 : ¬ C (B + 1)
  n4 : ¬ C (B + 1 + 1)
  wi : Within C w
theorem PxSt.under {B : Nat} {wA : World} {l s k : Nat} {f : Nat → Nat} {C E : Nat → Prop} {w w' : World} (h : PxSt B wA l s k f C w) (m : Stay E w w') (hE : ∀ j, j < B + 1 + 1 + 1 → E j) (hA : wA.heap.size ≤ B) : PxSt B wA l s k f C w' :=
  ⟨m.boxed h.b2 (hE _ (by omega)), m.boxed h.b3 (hE _ (by omega)), m.boxed h.b4 (hE _ (by omega)), Below.trans h.more (m.below fun j hj => hE j (by omega)), h.n2, h.n3, h.n4, h.wi.more m.size⟩
theorem PxSt.turn {B : Nat} {wA : World} {l s k : Nat} {f : Nat → Nat} {C C' : Nat → Prop} {w w' : World} (h : PxSt B wA l s k f C w) (m : Turn wA.heap.size C C' w w') : PxSt B wA l s k f C' w' :=
  ⟨m.boxed h.b2 h.n2, m.boxed h.b3 h.n3, m.boxed h.b4 h.n4, Below.trans h.more (m.below h.more.size), m.off h.n2 h.b2.lt, m.off h.n3 h.b3.lt, m.off h.n4 h.b4.lt, m.within h.wi⟩
theorem PxSt.set {B : Nat} {wA : World} {l s k : Nat} {f : Nat → Nat} {C : Nat → Prop} {w : World} (h : PxSt B wA l s k f C w) (hA : wA.heap.size ≤ B) (j x : Nat) (hx : sm f (j - 1) = x) : PxSt B wA l s j f C (w.setCell ⟨B + 1, 0, none⟩ (.int .i64 (x : Nat))) :=
  ⟨h.b2.other (by omega) _, by rw [hx]; exact h.b3.set _, h.b4.other (by omega) _, h.more.setCell (p := ⟨B + 1, 0, none⟩) (by simp; omega) _, h.n2, h.n3, h.n4, h.wi.more (KeepsOthers.setCell w _ _).size⟩

set_option maxRecDepth 1000000 in
set_option maxHeartbeats 4000000 in
theorem pall_in (n : Nat) (hn : 16 ≤ n) (Bs base q : Nat) (f : Nat → Nat) (N : Nat) (wA : World) (hA : PxAt wA base q f N) (hT : TabIn wA) :
    SeqSet Fence.wide n Tryz.prog 61 #[.pointer (some ⟨Bs, 0, none⟩)] encP wA.heap.size (fun A => Boxed A Bs 26 (.pointer (some ⟨q, 0, none⟩))) (fun xs => xs = allZ f N) (fun pre => ∃ c, c ≤ N ∧ pre = allZ f c) N wA := by
  intro l J Jx W C0 hW hC0 hlo hJ hJx hKp hY h0
  have bs := hKp _ _ _ h0
  have h1 : 1 ≤ n := by omega
  have hNb := hA.num
  have htop := hA.top
  obtain ⟨wz, hwz⟩ : ∃ wz, (W.alloc (.cells #[.func (.yield l) #[] #[]] 94)).alloc (.cells #[.int .i64 0] 3) = wz := ⟨_, rfl⟩
  have hmz : More W wz := by rw [← hwz]; exact (more_alloc _ _).alloc (more_alloc _ _).size _
  have bz2 : Boxed wz W.heap.size 94 (.func (.yield l) #[] #[]) := by rw [← hwz]; exact (Boxed.new _ _ _).alloc _
  have bz3 : Boxed wz (W.heap.size + 1) 3 (.int .i64 0) := by
    have := Boxed.new (W.alloc (.cells #[.func (.yield l) #[] #[]] 94)) 3 (.int .i64 0)
    rw [World.size_alloc] at this
    rw [← hwz]; exact this
  have hsz : wz.heap.size = W.heap.size + 1 + 1 := by rw [← hwz]; simp
  have cz := bz3.cell
  have fz := bz3.frozen
  obtain ⟨w0, hw0⟩ : ∃ w0, wz.setCell ⟨W.heap.size + 1, 0, none⟩ (.int .i64 0) = w0 := ⟨_, rfl⟩
  have hm0 : More W w0 := by rw [← hw0]; exact hmz.setCell (p := ⟨W.heap.size + 1, 0, none⟩) (by simp) _
  have b2 : Boxed w0 W.heap.size 94 (.func (.yield l) #[] #[]) := by rw [← hw0]; exact bz2.other (by omega) _
  have b3 : Boxed w0 (W.heap.size + 1) 3 (.int .i64 0) := by rw [← hw0]; exact bz3.set _
  have hs0 : w0.heap.size = W.heap.size + 1 + 1 := by rw [← hw0, ← hsz]; simp
  have hA0 := More.trans hW hm0
  have cs0 := (boxed_more bs (more_alloc W (.cells #[.func (.yield l) #[] #[]] 94))).cell
  have cs := (boxed_more bs hm0).cell
  obtain ⟨s, cA, hs⟩ := hA.rd
  have lq := World.block_lt_of_cell? wA _ cA
  have c0 := (hA0.cell (p := ⟨q, 0, none⟩) lq).trans cA
  have hseq := eall_in (n - 1) (by omega) (W.heap.size + 1 + 1) base s (sm f) (N + 1) wA hs hT
  have HH := Hid.mk (And.intro b2 (And.intro b3 (And.intro hm0 hA0)))
  clear hA hT hs b2 b3 hm0 hA0 cA bs hmz bz2 bz3 hsz
  refine callsIn_of_wp_marks Tryz.func61 rfl trivial ?_ rfl
  simp only [Tryz.ntmps61, List.size_toArray, List.length_cons, List.length_nil, Nat.reduceAdd, Nat.reduceSub, Array.replicate_succ, Array.replicate_zero, List.push_toArray, List.append_toArray, List.nil_append, List.cons_append]
  gi_wp2_with (refine ⟨trivial, ?_⟩; gi_at_call 62; refine (eall_call _ _ _).mono ?_; rintro e w' ⟨rfl, hw'⟩; subst w')
  obtain ⟨w1, hw1⟩ : ∃ w1, w0.alloc (.cells #[.pointer (some ⟨s, 0, none⟩)] 49) = w1 := ⟨_, rfl⟩
  have hm1 : More w0 w1 := by rw [← hw1]; exact more_alloc _ _
  have hs1 : w1.heap.size = W.heap.size + 1 + 1 + 1 := by rw [← hw1]; simp [hs0]
  have b4 : Boxed w1 (W.heap.size + 1 + 1) 49 (.pointer (some ⟨s, 0, none⟩)) := by rw [← hw1, ← hs0]; exact Boxed.new _ _ _
  have hA1 := More.trans HH.out.2.2.2 hm1
  have hW1 := More.trans HH.out.2.2.1 hm1
  have st1 : PxSt W.heap.size wA l s 0 f C0 w1 := ⟨boxed_more HH.out.1 hm1, boxed_more HH.out.2.1 hm1, b4, hA1, (fun h => by have := hC0 _ h; omega), (fun h => by have := hC0 _ h; omega), (fun h => by have := hC0 _ h; omega), hC0.more hW1.size⟩
  rw [hw1]
  clear hw1 hw0 hwz cz fz cs cs0 c0 HH b4
  refine range_set rfl h1 (gf := 88) (lb := #[.pointer (some ⟨W.heap.size + 1 + 1, 0, none⟩)]) rfl trivial (enters_of Tryz.func88 (by kernel_rfl) rfl)
    hseq (by omega) hA1 (fun _ => rfl)
    (fun pre E V => ∃ C, J (allZ f (pre.length - 1)) C V ∧ PxSt W.heap.size wA l s pre.length f C V ∧ (∀ k, C k → E k) ∧ (∀ k, k < w1.heap.size → E k))
    (fun c _ E V => c = .ret ∧ ∃ C e, e ≤ N ∧ Jx (allZ f e) C V ∧ Within C V ∧ (∀ k, C k → E k))
    (fun s E A A' ⟨C, h1, h2, h3, h4⟩ k => ⟨C, hJ _ _ _ _ h1 (k.sub h3), h2.under k (fun j hj => h4 j (by omega)) hlo, h3, h4⟩)
    (fun c s E A A' ⟨h0, C, e, h1, h2, h3, h4⟩ k => ⟨h0, C, e, h1, hJx _ _ _ _ h2 (k.sub h4), h3.more k.size, h4⟩)
    (fun _ _ _ ⟨_, _, h, _⟩ => h.b4) ⟨C0, hJ _ _ _ _ h0 (Stay.of_more hW1 hC0), st1, (fun k hk => by have := hC0 _ hk; omega), (fun _ h => h)⟩
    (fun x => { tmps := #[.func (.yield l) #[] #[], .pointer (some ⟨Bs, 0, none⟩), .pointer (some ⟨W.heap.size, 0, none⟩), .pointer (some ⟨W.heap.size + 1, 0, none⟩), .int .i64 x.1, .int .i64 x.2, .pointer (some ⟨q, 0, none⟩), .bool false, .pointer (some ⟨q, 0, none⟩), .pointer (some ⟨q, 0, none⟩), .pointer (some ⟨q, 0, none⟩), .pointer (some ⟨s, 0, none⟩), .func (.func 88) #[] #[.pointer (some ⟨W.heap.size + 1 + 1, 0, none⟩)], .int .i64 x.1, .int .i64 x.2, undef, undef, undef, undef, undef, undef, undef, undef, undef, undef, undef, undef, undef], defers := [] }) ?assign ?body ?done ?stop
  case assign =>
    intro l2 x V K' hK'
    gi_wp2
    exact hK'
  case body =>
    rintro l2 pre ⟨x1, x2⟩ V E ⟨c, hc, hSp⟩ ⟨C, hJs, st, hCE, hE⟩ hwE _ hsz hlen
    obtain ⟨rfl, rfl, rfl⟩ := next_of hSp
    clear hSp
    have hd : 1 ≤ n - 1 - 1 := by omega
    have hd2 : 1 ≤ n - 1 - 1 - 1 := by omega
    obtain ⟨k, hk⟩ : ∃ k, pre.length = k := ⟨_, rfl⟩
    have HL : Hid (∀ x : Int × Int, (pre ++ [x]).length = k + 1) := Hid.mk fun x => by rw [List.length_append, List.length_singleton, hk]
    rw [hk] at hJs hlen hc st ⊢
    clear hk
    cases k with
    | zero =>
      have c3 := st.b3.cell
      have f3 := st.b3.frozen
      have hz : Hid (sm f 0 = 0) := Hid.mk rfl
      have HO := Hid.mk (show Turn wA.heap.size E E V (V.setCell ⟨W.heap.size + 1, 0, none⟩ (.int .i64 (sm f 0 : Nat))) ∧ J (allZ f (0 + 1 - 1)) C (V.setCell ⟨W.heap.size + 1, 0, none⟩ (.int .i64 (sm f 0 : Nat))) ∧ PxSt W.heap.size wA l s (0 + 1) f C (V.setCell ⟨W.heap.size + 1, 0, none⟩ (.int .i64 (sm f 0 : Nat))) from
        ⟨(Turn.refl _ _ _).setCell (p := ⟨W.heap.size + 1, 0, none⟩) (by simp; omega) (hE _ (by simp; omega)) _, hJ _ _ _ _ hJs ((Stay.refl C V).setCell (p := ⟨W.heap.size + 1, 0, none⟩) st.n3 _), st.set hlo (0 + 1) _ rfl⟩)
      clear st hJs
      gi_wp2
      refine ⟨(fun _ h => by cases h), ?_⟩
      gi_wp2
      refine ⟨E, HO.out.1, C, ?_, ?_, hCE, hE⟩
      · rw [HL.out]; exact HO.out.2.1
      · rw [HL.out]; exact HO.out.2.2
    | succ j =>
      have c2 := st.b2.cell
      have c3 := st.b3.cell
      have hj1 : (((j + 1 : Nat) : Int)) - 1 = (j : Int) := by omega
      have hX : sm f (j + 1) = sm f j + f j := rfl
      have hXb := Nat.le_trans (sm_mono f (show j + 1 ≤ N by omega)) htop
      rw [show j + 1 - 1 = j from rfl] at hJs c3
      have hsc : allZ f (j + 1) = allZ f j ++ [((j : Int), (f j : Int))] := allZ_succ f j
      obtain ⟨X, hXe⟩ : ∃ X, sm f (j + 1) = X := ⟨_, rfl⟩
      obtain ⟨Y, hYe⟩ : ∃ Y, sm f j = Y := ⟨_, rfl⟩
      obtain ⟨Z, hZe⟩ : ∃ Z, f j = Z := ⟨_, rfl⟩
      have HE := Hid.mk (And.intro hXe hYe)
      rw [hXe, hYe, hZe] at hX
      rw [hXe] at hXb ⊢
      rw [hYe] at c3
      rw [hZe] at hsc
      have hsub : (X : Int) - (Y : Int) = (Z : Int) := by omega
      have hwZ : IntKind.i64.wrap (Z : Int) = (Z : Int) := by rw [IntKind.wrap_i64]; omega
      obtain ⟨fn, tmps, assign, body, hy, hRd⟩ := hY (allZ f j) ((j : Int), (Z : Int)) V C ⟨j + 1, by omega, hsc.symm⟩ hJs st.wi (by omega) (by rw [allZ_len]; omega)
      dsimp only [encP] at hy
      rw [← hsc] at hRd
      have hRd' := RoundIn.within (m' := n - 1 - 1 - 1) (l2 := l2) hRd
      clear hRd hY hX hXe hYe hZe hsc hseq
      gi_wp2
      refine hRd'.mono ?_
      clear hRd' hy
      rintro e W3 ⟨C', (⟨rfl, hJ3, ho3⟩ | ⟨rfl, hJ3, ho3⟩)⟩
      · have st3 := st.turn ho3
        have c33 := st3.b3.cell
        have f33 := st3.b3.frozen
        have HO := Hid.mk (show Turn wA.heap.size E (fun k => E k ∨ (V.heap.size ≤ k ∧ k < W3.heap.size)) V (W3.setCell ⟨W.heap.size + 1, 0, none⟩ (.int .i64 (X : Nat))) ∧ J (allZ f (j + 1 + 1 - 1)) C' (W3.setCell ⟨W.heap.size + 1, 0, none⟩ (.int .i64 (X : Nat))) ∧ PxSt W.heap.size wA l s (j + 1 + 1) f C' (W3.setCell ⟨W.heap.size + 1, 0, none⟩ (.int .i64 (X : Nat))) ∧ (∀ k, C' k → E k ∨ (V.heap.size ≤ k ∧ k < W3.heap.size)) from
          ⟨(ho3.wide hCE).setCell (p := ⟨W.heap.size + 1, 0, none⟩) (by simp; omega) (.inl (hE _ (by simp; omega))) _, hJ _ _ _ _ hJ3 ((Stay.refl C' W3).setCell (p := ⟨W.heap.size + 1, 0, none⟩) st3.n3 _), st3.set hlo (j + 1 + 1) X HE.out.1, ho3.wider hCE⟩)
        clear st3 hJ3 ho3 st
        gi_wp2
        refine ⟨_, HO.out.1, C', ?_, ?_, HO.out.2.2.2, fun k hk => .inl (hE k (by omega))⟩
        · rw [HL.out]; exact HO.out.2.1
        · rw [HL.out]; exact HO.out.2.2.1
      · have HO := Hid.mk (And.intro (ho3.wide hCE) (And.intro hJ3 (And.intro (ho3.within st.wi) (ho3.wider hCE))))
        clear hJ3 ho3 st
        gi_wp2
        exact ⟨_, HO.out.1, rfl, C', j + 1, by omega, HO.out.2.1, HO.out.2.2.1, HO.out.2.2.2⟩
  case done =>
    rintro D ys E V hD hED rfl ⟨C, hJs, st, hCE, hE⟩ _ _ hKD
    rw [allZ_len, show N + 1 - 1 = N from rfl] at hJs
    gi_wp2
    exact leaves_set (C := C) (B := W.heap.size) (.cons (by omega) hKD (fun _ h => by cases h) .nil) (one_mark fun h => hED (hCE _ h)) fun w' hw' _ => ⟨_, results_none rfl _ _ _, ⟨_, rfl⟩, .inl ⟨_, C, rfl, hJ _ _ _ _ hJs hw', st.wi.stay hw'⟩⟩
  case stop =>
    rintro D cc pre E V hD hED _ ⟨rfl, C, e, he, hjx, hwi, hCE⟩ _ _ hKD
    gi_wp2
    exact leaves_set (C := C) (B := W.heap.size) (.cons (by omega) hKD (fun _ h => by cases h) .nil) (one_mark fun h => hED (hCE _ h)) fun w' hw' _ => ⟨_, results_none rfl _ _ _, ⟨_, rfl⟩, .inr ⟨_, C, ⟨e, he, rfl⟩, hJx _ _ _ _ hjx hw', hwi.stay hw'⟩⟩

end Go.Proofs.YtbjgbigalfhnjaaGreatDoor
