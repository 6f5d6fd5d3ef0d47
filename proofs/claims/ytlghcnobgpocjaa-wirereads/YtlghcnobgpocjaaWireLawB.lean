/-
  Law 10's read.
-/
import Derived.Test.YtlghcnobgpocjaaWireLawA
namespace Go.Proofs.Ytlghcnobgpocjaa
open Go.RowKit

/-- What read tells: the same, and both readers stand alike. -/
def Both (base b x : Nat) (l : List UInt8) (w : World) (e : Ending) (w' : World) : Prop :=
  ∃ a E, e = .returned (.bool true) ∧ RdAt w' base b l a E ∧ XAt w' base x (l.drop a) E ∧ Below base w w'

set_option maxHeartbeats 3200000 in
set_option maxRecDepth 1000000 in
theorem law_read (base b x a E : Nat) (l : List UInt8) (kd : Int) (v : Nat) (N : Int) (s : List UInt8) (w : World) (h : RdAt w base b l a E) (hx : XAt w base x (l.drop a) E) (hN : -9223372036854775808 ≤ N ∧ N ≤ 9223372036854775807) :
    Calls Try.prog 12 #[.pointer (some ⟨b, 0, none⟩), .pointer (some ⟨x, 0, none⟩), partV kd v N s] w (Both base b x l w) := by
  have hm := More.alloc w (partO kd v N s)
  have HB := Hid.mk (And.intro (heap_alloc_new w (partO kd v N s)) (And.intro (hm.mono h.sz) h.sz))
  have HR := Hid.mk (And.intro (h.more hm) (hx.more hm))
  have HD := Hid.mk (show ((w.alloc (partO kd v N s)).drew.heap[w.heap.size]? = some (partO kd v N s)) ∧ Below base w (w.alloc (partO kd v N s)).drew ∧ RdAt (w.alloc (partO kd v N s)).drew base b l a E ∧ XAt (w.alloc (partO kd v N s)).drew base x (l.drop a) E from
    ⟨heap_alloc_new w _, (hm.trans (More.drew _)).mono h.sz, h.more (hm.trans (More.drew _)), hx.more (hm.trans (More.drew _))⟩)
  clear h hx hm
  by_cases k0 : kd = 0
  · subst k0
    obtain ⟨v', t, er, hq⟩ : ∃ v' t er, st E 0 (fst (l.drop a)) = (v', t, er) := ⟨_, _, _, rfl⟩
    have h1 := rdr_num base b a t er E v' l _ HR.out.1 hq
    have h2 := fun w h => ref_rnum base x t er E v' (l.drop a) w h hq
    rw [List.drop_drop] at h2
    clear hq
    go_enter Try.func12, Try.ntmps12
    go_wp2_with (first
      | (go_at_call 17; refine h1.mono ?_; rintro e w1 ⟨rfl, ha, hb⟩; have H1 := Hid.mk (And.intro ha (And.intro (hb.x HR.out.2) (Below.trans HB.out.2.1 hb.below))); clear ha hb h1)
      | (go_at_call 28; refine (h2 w1 H1.out.2.1).mono ?_; rintro e w2 ⟨rfl, ha, hb⟩; have H2 := Hid.mk (And.intro (hb.rd H1.out.1) (And.intro ha (Below.trans H1.out.2.2 hb.below))); clear ha hb))
    go_ret
    unfold Both
    exact ⟨a + t, er, by simp, H2.out.1, H2.out.2.1, H2.out.2.2⟩
  by_cases k1 : kd = 1
  · subst k1
    obtain ⟨v', t, er, hq⟩ : ∃ v' t er, st E 0 (rdI (l.drop a)) = (v', t, er) := ⟨_, _, _, rfl⟩
    have h1 := rdr_int base b a t er E v' l _ HR.out.1 hq
    have h2 := fun w h => ref_rint base x t er E v' (l.drop a) w h hq
    rw [List.drop_drop] at h2
    clear hq
    go_enter Try.func12, Try.ntmps12
    go_wp2_with (first
      | (go_at_call 18; refine h1.mono ?_; rintro e w1 ⟨rfl, ha, hb⟩; have H1 := Hid.mk (And.intro ha (And.intro (hb.x HR.out.2) (Below.trans HB.out.2.1 hb.below))); clear ha hb h1)
      | (go_at_call 29; refine (h2 w1 H1.out.2.1).mono ?_; rintro e w2 ⟨rfl, ha, hb⟩; have H2 := Hid.mk (And.intro (hb.rd H1.out.1) (And.intro ha (Below.trans H1.out.2.2 hb.below))); clear ha hb))
    go_ret
    unfold Both
    exact ⟨a + t, er, by simp, H2.out.1, H2.out.2.1, H2.out.2.2⟩
  by_cases k2 : kd = 2
  · subst k2
    obtain ⟨v', t, er, hq⟩ : ∃ v' t er, st E [] (rdT (l.drop a) N) = (v', t, er) := ⟨_, _, _, rfl⟩
    have h1 := fun w h => rdr_text base b a t er E v' N l w h hN hq
    have h2 := fun w h => ref_rtext base x t er E N v' (l.drop a) w h hN hq
    rw [List.drop_drop] at h2
    clear hq
    go_enter Try.func12, Try.ntmps12
    go_wp2_with fail
    go_region_held (fun w' => w'.cell? ⟨w.heap.size, 2, none⟩ = some (.int .i64 N))
      (first | assumption | exact (cells4 HD.out.1).2.2.1)
      (first
        | (go_at_call 19; refine (h1 _ HD.out.2.2.1).mono ?_; rintro e w1 ⟨rfl, ha, hb⟩; have hS1 := (cells4 (box_r hb HD.out.1)).2.2.1; have H1 := Hid.mk (And.intro ha (And.intro (hb.x HD.out.2.2.2) (And.intro (Below.trans HD.out.2.1 hb.below) (box_r hb HD.out.1)))); clear ha hb)
        | (go_at_call 30; refine (h2 w1 H1.out.2.1).mono ?_; rintro e w2 ⟨rfl, ha, hb⟩; have hS2 := (cells4 (box_x hb H1.out.2.2.2)).2.2.1; have H2 := Hid.mk (And.intro (hb.rd H1.out.1) (And.intro ha (Below.trans H1.out.2.2.1 hb.below))); clear ha hb))
    go_wp2
    go_ret
    unfold Both
    exact ⟨a + t, er, by simp, H2.out.1, H2.out.2.1, H2.out.2.2⟩
  by_cases k3 : kd = 3
  · subst k3
    obtain ⟨v', t, er, hq⟩ : ∃ v' t er, st E [] (rdR (l.drop a) N) = (v', t, er) := ⟨_, _, _, rfl⟩
    have h1 := fun w h => rdr_raw base b a t er E v' N l w h hN hq
    have h2 := fun w h => ref_rraw base x t er E N v' (l.drop a) w h hN hq
    rw [List.drop_drop] at h2
    clear hq
    go_enter Try.func12, Try.ntmps12
    go_wp2_with fail
    go_region_held (fun w' => w'.cell? ⟨w.heap.size, 2, none⟩ = some (.int .i64 N))
      (first | assumption | exact (cells4 HD.out.1).2.2.1)
      (first
        | (go_at_call 20; refine (h1 _ HD.out.2.2.1).mono ?_; rintro e w1 ⟨rfl, ha, hb⟩; have hS1 := (cells4 (box_r hb HD.out.1)).2.2.1; have H1 := Hid.mk (And.intro ha (And.intro (hb.x HD.out.2.2.2) (And.intro (Below.trans HD.out.2.1 hb.below) (box_r hb HD.out.1)))); clear ha hb)
        | (go_at_call 31; refine (h2 w1 H1.out.2.1).mono ?_; rintro e w2 ⟨rfl, ha, hb⟩; have hS2 := (cells4 (box_x hb H1.out.2.2.2)).2.2.1; have H2 := Hid.mk (And.intro (hb.rd H1.out.1) (And.intro ha (Below.trans H1.out.2.2.1 hb.below))); clear ha hb))
    go_wp2
    go_ret
    unfold Both
    exact ⟨a + t, er, by simp, H2.out.1, H2.out.2.1, H2.out.2.2⟩
  by_cases k4 : kd = 4
  · subst k4
    obtain ⟨v', t, er, hq⟩ : ∃ v' t er, st E 0 (bnd (l.drop a) N 8) = (v', t, er) := ⟨_, _, _, rfl⟩
    have h1 := fun w h => rdr_upto base b a t er E v' N l w h hN hq
    have h2 := fun w h => ref_rupto base x t er E v' N (l.drop a) w h hN hq
    rw [List.drop_drop] at h2
    clear hq
    go_enter Try.func12, Try.ntmps12
    go_wp2_with fail
    go_region_held (fun w' => w'.cell? ⟨w.heap.size, 2, none⟩ = some (.int .i64 N))
      (first | assumption | exact (cells4 HD.out.1).2.2.1)
      (first
        | (go_at_call 32; refine (h1 _ HD.out.2.2.1).mono ?_; rintro e w1 ⟨rfl, ha, hb⟩; have hS1 := (cells4 (box_r hb HD.out.1)).2.2.1; have H1 := Hid.mk (And.intro ha (And.intro (hb.x HD.out.2.2.2) (And.intro (Below.trans HD.out.2.1 hb.below) (box_r hb HD.out.1)))); clear ha hb)
        | (go_at_call 33; refine (h2 w1 H1.out.2.1).mono ?_; rintro e w2 ⟨rfl, ha, hb⟩; have hS2 := (cells4 (box_x hb H1.out.2.2.2)).2.2.1; have H2 := Hid.mk (And.intro (hb.rd H1.out.1) (And.intro ha (Below.trans H1.out.2.2.1 hb.below))); clear ha hb))
    go_wp2
    go_ret
    unfold Both
    exact ⟨a + t, er, by simp, H2.out.1, H2.out.2.1, H2.out.2.2⟩
  have n0 : (kd == 0) = false := by simp [k0]
  have n1 : (kd == 1) = false := by simp [k1]
  have n2 : (kd == 2) = false := by simp [k2]
  have n3 : (kd == 3) = false := by simp [k3]
  have n4 : (kd == 4) = false := by simp [k4]
  clear k0 k1 k2 k3 k4
  by_cases hr : 1 ≤ N ∧ N ≤ 12
  · obtain ⟨F, rfl⟩ := Int.eq_ofNat_of_zero_le (show 0 ≤ N by omega)
    have h1 := rd_fail base b a E F l _ HR.out.1
    obtain ⟨hr1, hr2⟩ := hr
    by_cases hE : E = 0
    · subst hE
      rw [if_pos rfl] at h1
      go_enter Try.func12, Try.ntmps12
      go_wp2_with (go_at_call 34; refine h1.mono ?_; rintro e w1 ⟨rfl, ha, hb⟩; obtain ⟨d0, d1, d2, d3⟩ := cells4 (box_r hb HB.out.1); obtain ⟨f0, f1, f2, f3⟩ := cells2 (hb.x HR.out.2).mem; have H1 := Hid.mk (And.intro ha (And.intro ((hb.x HR.out.2).errs (E' := F)) (Below.trans HB.out.2.1 hb.below))); clear ha hb h1)
      go_ret
      unfold Both
      exact ⟨a, F, rfl, H1.out.2.1.2.rd H1.out.1, H1.out.2.1.1, Below.trans H1.out.2.2 H1.out.2.1.2.below⟩
    · rw [if_neg hE] at h1
      have hne : ((E : Int) == 0) = false := by simp; omega
      go_enter Try.func12, Try.ntmps12
      go_wp2_with (go_at_call 34; refine h1.mono ?_; rintro e w1 ⟨rfl, ha, hb⟩; obtain ⟨d0, d1, d2, d3⟩ := cells4 (box_r hb HB.out.1); obtain ⟨f0, f1, f2, f3⟩ := cells2 (hb.x HR.out.2).mem; have H1 := Hid.mk (And.intro ha (And.intro (hb.x HR.out.2) (Below.trans HB.out.2.1 hb.below))); clear ha hb h1)
      go_ret
      unfold Both
      exact ⟨a, E, rfl, H1.out.1, H1.out.2.1, H1.out.2.2⟩
  · have H1 := Hid.mk (And.intro HR.out.1 (And.intro HR.out.2 HB.out.2.1))
    rcases (show N < 1 ∨ (1 ≤ N ∧ 12 < N) by omega) with h1 | ⟨h1, h2⟩
    all_goals
      clear hr HR HB
      go_enter Try.func12, Try.ntmps12
      go_wp2
      go_ret
      unfold Both
      exact ⟨a, E, rfl, H1.out.1, H1.out.2.1, H1.out.2.2⟩

end Go.Proofs.Ytlghcnobgpocjaa
