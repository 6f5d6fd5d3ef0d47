/-
  PackMakes and PackOf, walked.
-/
import Derived.Test.YtbjdjidamocmoaaPackLive
namespace Go.Proofs.Ytbjdjidamocmoaa
open Go.RowKit

theorem packMakes_bad (v : Value) (K : Nat) (f : Nat → Nat) (d i : Int) (w : World) (h : Rd w v K f) (hf : ∀ j, j < K → f j < 18446744073709551616) (hK : K ≤ 60) (hd : ¬ (0 ≤ d ∧ d ≤ 64)) :
    Calls Try.prog 3 #[.int .i64 d, v, .int .i64 i] w fun e w' => e = .returned (.bool true) ∧ Below w.heap.size w w' := by
  have hnew := new_bad v d w hd
  have hwid := refp_width v K f w h hf (by omega)
  have hl := live w
  obtain ⟨ao, cap, rfl⟩ := h.shape
  clear h hf
  rcases (show d < 0 ∨ (0 ≤ d ∧ 64 < d) by omega) with h1 | ⟨h1, h2⟩
  all_goals
    clear hd
    go_enter Try.func3, Try.ntmps3
    go_wp2_with (first
      | (go_at_call 8; refine hnew.mono ?_; rintro e w1 ⟨rfl, hw⟩; subst w1)
      | (go_at_call 9; refine hwid.mono ?_; rintro e w1 ⟨rfl, hw⟩; subst w1)
      | (go_at_call 7; refine hl.mono ?_; rintro e w2 ⟨rfl, hm⟩; have H2 := Hid.mk hm; clear hm))
    go_ret
    exact ⟨rfl, H2.out⟩

theorem packMakes_range (v : Value) (K d : Nat) (f : Nat → Nat) (i : Int) (w : World) (h : Rd w v K f) (hf : ∀ j, j < K → f j < 18446744073709551616) (hK : K ≤ 60) (hd : d ≤ 64) (hw : ¬ wid f K ≤ d) :
    Calls Try.prog 3 #[.int .i64 d, v, .int .i64 i] w fun e w' => e = .returned (.bool true) ∧ Below w.heap.size w w' := by
  have hnew := pack_new v K d f w h hf hd (by omega)
  have hwid := fun (w' : World) (k : More w w') => refp_width v K f w' (h.more k) hf (by omega)
  obtain ⟨D, hD⟩ : ∃ D, wid f K = D := ⟨_, rfl⟩
  have hD64 : D ≤ 64 := by rw [← hD]; exact wid_le64 f K hf
  rw [hD] at hw hnew hwid
  obtain ⟨ao, cap, rfl⟩ := h.shape
  clear h hf hD
  go_enter Try.func3, Try.ntmps3
  go_wp2_with (first
    | (go_at_call 8; refine hnew.mono ?_; rintro e w1 ⟨⟨hh, _⟩ | ⟨_, rfl⟩, hm⟩; exact absurd hh hw; have H1 := Hid.mk hm; clear hm)
    | (go_at_call 9; refine (hwid _ H1.out).mono ?_; rintro e w2 ⟨rfl, hw2⟩; subst w2)
    | (go_at_call 7; refine (live _).mono ?_; rintro e w3 ⟨rfl, hm⟩; have H3 := Hid.mk hm; clear hm))
  go_ret
  exact ⟨rfl, More.trans H1.out H3.out⟩

theorem isin (i : Int) (K : Nat) : (0 ≤ i ∧ i < K) ∨ i < 0 ∨ (0 ≤ i ∧ (K : Int) ≤ i) := by omega

set_option maxRecDepth 1000000 in
theorem packMakes_fits (v : Value) (K d : Nat) (f : Nat → Nat) (i : Int) (w : World) (h : Rd w v K f) (hf : ∀ j, j < K → f j < 18446744073709551616) (hK : K ≤ 60) (hd : d ≤ 64) (hw : wid f K ≤ d) :
    Calls Try.prog 3 #[.int .i64 d, v, .int .i64 i] w fun e w' => e = .returned (.bool true) ∧ Below w.heap.size w w' := by
  have hnew := pack_new v K d f w h hf hd (by omega)
  have hwid := fun (w' : World) (k : More w w') => refp_width v K f w' (h.more k) hf (by omega)
  have hfit := fun (w' : World) (k : More w w') => pack_fit v K f w' (h.more k) hf (by omega)
  have his := fun (base p : Nat) (w' : World) (k : More w w') (hp : PackAt w' base p (packV d f K) d K) => is_pack v base p d K f w' hp (h.more k) (fits f K d hf hw) (by omega)
  have his2 := fun (base p : Nat) (w' : World) (k : More w w') (hp : PackAt w' base p (packV (wid f K) f K) (wid f K) K) => is_pack v base p (wid f K) K f w' hp (h.more k) (fits f K (wid f K) hf (Nat.le_refl _)) (by omega)
  obtain ⟨D, hD⟩ : ∃ D, wid f K = D := ⟨_, rfl⟩
  have hD64 : D ≤ 64 := by rw [← hD]; exact wid_le64 f K hf
  rw [hD] at hw hnew hwid hfit his2
  obtain ⟨ao, cap, rfl⟩ := h.shape
  clear h hf hD
  rcases isin i K with ⟨h1, h2⟩ | h1 | ⟨h1, h2⟩
  · go_enter Try.func3, Try.ntmps3
    go_wp2_with (first
      | (go_at_call 8; refine hnew.mono ?_; rintro e w1 ⟨⟨_, p, rfl, hp⟩ | ⟨hh, _⟩, hm⟩; rotate_left; exact absurd hw hh; have H1 := Hid.mk (And.intro hp hm); clear hp hm)
      | (go_at_call 9; refine (hwid _ H1.out.2).mono ?_; rintro e w2 ⟨rfl, hw2⟩; subst w2)
      | (go_at_call_of 10 (Value.pointer (some ⟨p, 0, none⟩)); refine (his _ p _ H1.out.2 H1.out.1).mono ?_; rintro e w3 ⟨rfl, hm⟩; have H3 := Hid.mk (More.trans H1.out.2 hm); clear hm)
      | (go_at_call 11; refine (hfit _ H3.out).mono ?_; rintro e w4 ⟨p4, rfl, hp, hm⟩; have H4 := Hid.mk (And.intro hp (More.trans H3.out hm)); clear hp hm)
      | (go_at_call_of 10 (Value.pointer (some ⟨p4, 0, none⟩)); refine (his2 _ p4 _ H4.out.2 H4.out.1).mono ?_; rintro e w5 ⟨rfl, hm⟩; have H5 := Hid.mk (More.trans H4.out.2 hm); clear hm)
      | (go_at_call 12; refine (none_at i _).mono ?_; rintro e w6 ⟨rfl, hw2⟩; subst w6)
      | (go_at_call 7; refine (live _).mono ?_; rintro e w7 ⟨rfl, hm⟩; have H7 := Hid.mk (More.trans H5.out hm); clear hm))
    go_ret
    exact ⟨rfl, H7.out⟩
  all_goals
    have hat := fun (p : Nat) (w' : World) (hp : PackRd w' p (packV d f K) d K) => pack_at p (packV d f K) d K i w' hp
    rw [atV_out (packV d f K) d K i (by omega)] at hat
    go_enter Try.func3, Try.ntmps3
    go_wp2_with (first
      | (go_at_call 8; refine hnew.mono ?_; rintro e w1 ⟨⟨_, p, rfl, hp⟩ | ⟨hh, _⟩, hm⟩; rotate_left; exact absurd hw hh; have H1 := Hid.mk (And.intro hp hm); clear hp hm)
      | (go_at_call 9; refine (hwid _ H1.out.2).mono ?_; rintro e w2 ⟨rfl, hw2⟩; subst w2)
      | (go_at_call_of 10 (Value.pointer (some ⟨p, 0, none⟩)); refine (his _ p _ H1.out.2 H1.out.1).mono ?_; rintro e w3 ⟨rfl, hm⟩; have H3 := Hid.mk (And.intro (More.trans H1.out.2 hm) (H1.out.1.more hm)); clear hm)
      | (go_at_call 11; refine (hfit _ H3.out.1).mono ?_; rintro e w4 ⟨p4, rfl, hp, hm⟩; have H4 := Hid.mk (And.intro hp (And.intro (More.trans H3.out.1 hm) (H3.out.2.more hm))); clear hp hm)
      | (go_at_call_of 10 (Value.pointer (some ⟨p4, 0, none⟩)); refine (his2 _ p4 _ H4.out.2.1 H4.out.1).mono ?_; rintro e w5 ⟨rfl, hm⟩; have H5 := Hid.mk (And.intro (More.trans H4.out.2.1 hm) (H4.out.2.2.more hm)); clear hm)
      | (go_at_call 12; refine (hat p _ H5.out.2.rd).mono ?_; rintro e w6 ⟨rfl, m6, hw2⟩; subst w6)
      | (go_at_call 13; refine (none_len _).mono ?_; rintro e w6 ⟨rfl, hw2⟩; subst w6)
      | (go_at_call 14; refine (none_width _).mono ?_; rintro e w6 ⟨rfl, hw2⟩; subst w6)
      | (go_at_call 15; refine (none_words _).mono ?_; rintro e w6 ⟨rfl, hw2⟩; subst w6)
      | (go_at_call 7; refine (live _).mono ?_; rintro e w7 ⟨rfl, hm⟩; have H7 := Hid.mk (More.trans H5.out.1 (More.trans (More.drewN _ _) hm)); clear hm))
    go_ret
    exact ⟨rfl, H7.out⟩

theorem packMakes (v : Value) (K : Nat) (f : Nat → Nat) (d i : Int) (w : World) (h : Rd w v K f) (hf : ∀ j, j < K → f j < 18446744073709551616) (hK : K ≤ 9223372036854775807) :
    Calls Try.prog 3 #[.int .i64 d, v, .int .i64 i] w fun e w' => e = .returned (.bool true) ∧ Below w.heap.size w w' := by
  by_cases hbig : 60 < K
  · obtain ⟨ao, cap, rfl⟩ := h.shape
    have hl := live w
    clear h hf
    go_enter Try.func3, Try.ntmps3
    go_wp2_with (go_at_call 7; refine hl.mono ?_; rintro e w' ⟨rfl, hm⟩)
    go_ret
    exact ⟨rfl, hm⟩
  · by_cases hd : 0 ≤ d ∧ d ≤ 64
    · obtain ⟨d, rfl⟩ := Int.eq_ofNat_of_zero_le hd.1
      by_cases hw : wid f K ≤ d
      · exact packMakes_fits v K d f i w h hf (by omega) (by omega) hw
      · exact packMakes_range v K d f i w h hf (by omega) (by omega) hw
    · exact packMakes_bad v K f d i w h hf (by omega) hd

end Go.Proofs.Ytbjdjidamocmoaa
