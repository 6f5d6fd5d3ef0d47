/-
  StreamNone, walked.
-/
import Derived.Test.YtgcjbkcfcklcfaaDoorStreamLive
import Derived.Deep.RegionWith
namespace Go.Proofs.YtgcjbkcfcklcfaaDoor
open Go.RowKit

theorem rd_ok {kd N : Int} {U m v t er : Nat} (h : rd kd U m N = (v, t, er)) : t ≤ m ∧ (er ≠ 0 → v = 0 ∧ t = 0) := by
  unfold rd at h
  split at h
  · exact rdF_ok h
  · split at h
    · exact ⟨(rdU_ok h).1, (rdU_ok h).2.1⟩
    · split at h
      · exact rdG_ok h
      · exact rdR_ok h

/-- A code lies at block b. -/
structure CodeAt (w : World) (b : Nat) (kd : Int) (x : Nat) (N : Int) : Prop where
  c0 : w.cell? ⟨b, 0, none⟩ = some (.int .i64 kd)
  c1 : w.cell? ⟨b, 1, none⟩ = some (.int .u64 x)
  c2 : w.cell? ⟨b, 2, none⟩ = some (.int .i64 N)
theorem CodeAt.new (w : World) (kd : Int) (x : Nat) (N : Int) : CodeAt (w.alloc (codeO kd x N)) w.heap.size kd x N := ⟨by simp, by simp, by simp⟩
theorem CodeAt.more {w w' : World} {b x : Nat} {kd N : Int} (h : CodeAt w b kd x N) (k : More w w') : CodeAt w' b kd x N := by
  have hb := World.block_lt_of_cell? w _ h.c1
  exact ⟨(k.cell (p := ⟨b, 0, none⟩) hb).trans h.c0, (k.cell (p := ⟨b, 1, none⟩) hb).trans h.c1, (k.cell (p := ⟨b, 2, none⟩) hb).trans h.c2⟩

set_option maxHeartbeats 3200000 in
set_option maxRecDepth 1000000 in
theorem streamNone (kd N : Int) (x : Nat) (w : World) (hT : TabIn w) :
    Calls Tryd.prog 6 #[codeV kd x N] w fun e w' => e = .returned (.bool true) ∧ Below w.heap.size w w' := by
  have h0 : 0 < w.heap.size := World.block_lt_of_cell? w ⟨0, 0, none⟩ (hT 0 (by omega))
  have HT := Hid.mk (fun (w' : World) (h : Below w.heap.size w w') => hT.below h h0)
  obtain ⟨v, t, er, hq⟩ : ∃ v t er, rd kd (0 / 2 ^ 0) (0 - 0) N = (v, t, er) := ⟨_, _, _, rfl⟩
  have hq2 : rd (knd kd) 0 0 N = (v, t, er) := by rw [rd_knd]; exact hq
  obtain rfl : t = 0 := by have := (rd_ok hq).1; omega
  have hread := fun base b w' (h : RdAt w' base b 0 0 0 0) (hT : TabIn w') => law_read base b 0 0 0 v 0 er x kd N w' h hT hq
  have href := fun w' => ref_read (.slice none 0 0) 0 0 v 0 er (knd kd) N w' (.inl ⟨rfl, _, _, rfl⟩) (by decide) (by decide) hq2
  have hend := fun base b w' (h : RdAt w' base b 0 0 0 er) => rdr_end base b 0 0 0 er w' h
  rw [show endE 0 0 er = er by simp [endE]] at hend
  have hleft := fun base b w' (h : RdAt w' base b 0 0 0 0) => rdr_left base b 0 0 0 0 w' h
  obtain ⟨wb, hwb⟩ : ∃ wb, w.alloc (codeO kd x N) = wb := ⟨_, rfl⟩
  have H0 := Hid.mk (show CodeAt wb w.heap.size kd x N ∧ More w wb by rw [← hwb]; exact ⟨CodeAt.new w kd x N, more_box _ _⟩)
  have T1 : Hid True := trivial
  have HW := Hid.mk hwb
  clear hT h0 hq hq2 hwb
  go_enter Tryd.func6, Tryd.ntmps6
  go_wp2_with (first
    | (go_at_call 19; have T2 := T1; clear T1; rw [HW.out]; refine (none_read x kd N _).mono ?_; rintro e w1 ⟨rfl, ha⟩; have H1 := Hid.mk (And.intro (H0.out.1.more ha) (More.trans H0.out.2 ha)); clear ha)
    | (go_at_call 20; refine (no_left _).mono ?_; rintro e w' ⟨rfl, hw'⟩; subst w')
    | (go_at_call 21; refine (no_err _).mono ?_; rintro e w' ⟨rfl, hw'⟩; subst w')
    | (go_at_call 22; refine (no_end _).mono ?_; rintro e w' ⟨rfl, hw'⟩; subst w')
    | (go_at_call 17; refine (rd_open _ 0 0 w1 (RowHas.none w1)).mono ?_; rintro e w2 ⟨rb, rfl, ha, hb⟩; have H2 := Hid.mk (And.intro ha (And.intro (H1.out.1.more hb) (More.trans H1.out.2 hb))); clear ha hb))
  obtain ⟨d0, d1, d2⟩ := H2.out.2.1
  have dm := fun m => (H2.out.2.1.more (More.drewN w2 m))
  go_region_with (first
    | (go_at_call 9; refine (law_kind kd N x _).mono ?_; rintro e w3 ⟨rfl, hw3⟩; have hm3 : More w2 w3 := (by rw [hw3]; first | exact more_box _ _ | exact More.trans (More.drewN w2 _) (more_box _ _)); clear hw3; have H3 := Hid.mk (And.intro (H2.out.1.more hm3) (And.intro (H2.out.2.1.more hm3) (More.trans H2.out.2.2 hm3))); obtain ⟨e0, e1, e2⟩ := H3.out.2.1; clear hm3)
    | (go_at_call 18; refine (href _).mono ?_; rintro e w4 ⟨rfl, hw4⟩; subst w4))
  all_goals
    clear d0 d1 d2 dm
    go_wp2_with (first
      | (go_at_call 20; refine (hleft _ rb w3 H3.out.1).mono ?_; rintro e w5 ⟨rfl, m5, hw5⟩; have hm5 := More.drewN w3 m5; rw [← hw5] at hm5; clear hw5; have H5 := Hid.mk (And.intro (H3.out.1.more hm5) (And.intro (H3.out.2.1.more hm5) (More.trans H3.out.2.2 hm5))); clear hm5 e0 e1 e2; obtain ⟨e0, e1, e2⟩ := H5.out.2.1)
      | (go_at_call 19; refine (hread _ rb w5 H5.out.1 (HT.out w5 H5.out.2.2)).mono ?_; rintro e w6 ⟨rfl, ha, hb⟩; have H6 := Hid.mk (And.intro ha (Below.trans H5.out.2.2 (hb.mono H1.out.2.size))); clear ha hb)
      | (go_at_call 21; refine (rdr_err _ rb 0 0 _ er w6 H6.out.1).mono ?_; rintro e w' ⟨rfl, hw'⟩; subst w')
      | (go_at_call 22; refine (hend _ rb w6 H6.out.1).mono ?_; rintro e w7 ⟨rfl, m7, hw7⟩; have hm7 := More.drewN w6 m7; rw [← hw7] at hm7; clear hw7; have H7 := Hid.mk (H6.out.2.trans (hm7.mono H6.out.2.size)); clear hm7)
      | (go_at_call 7; refine (live_true w7 (HT.out w7 H7.out)).mono ?_; rintro e w8 ⟨rfl, ha⟩; have H8 := Hid.mk (H7.out.trans (ha.mono H7.out.size)); clear ha))
    go_ret
    exact ⟨rfl, H8.out⟩

end Go.Proofs.YtgcjbkcfcklcfaaDoor
