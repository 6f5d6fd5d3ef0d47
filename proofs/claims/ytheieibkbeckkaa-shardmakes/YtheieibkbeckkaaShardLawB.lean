/-
  ShardMakes walked.
-/
import Derived.Test.YtheieibkbeckkaaShardLawA
namespace Go.Proofs.Ytheieibkbeckkaa
open Go.RowKit

theorem makes_big (ao : Option Addr) (K cap : Nat) (x : Int) (w : World) (hK : K ≤ 9223372036854775807) (hb : 200 < K) :
    Calls Try.prog 3 #[.slice ao K cap, .int .i64 x] w fun e w' => e = .returned (.bool true) ∧ Below w.heap.size w w' := by
  go_enter Try.func3, Try.ntmps3
  go_wp2_with (go_at_call 6; refine (sh_live _).mono ?_; rintro e w1 ⟨rfl, hm⟩; have H1 := Hid.mk hm; clear hm)
  go_ret
  exact ⟨rfl, H1.out⟩

set_option maxHeartbeats 1600000 in
set_option maxRecDepth 1000000 in
theorem makes_bad (ao : Option Addr) (K cap : Nat) (g : Nat → Int) (x : Int) (w : World) (h : ZRd w (.slice ao K cap) K g) (hb : K ≤ 200) (h0 : wrg g K ≠ 0) :
    Calls Try.prog 3 #[.slice ao K cap, .int .i64 x] w fun e w' => e = .returned (.bool true) ∧ Below w.heap.size w w' := by
  have hw := ref_wrong _ K g w h (by omega)
  have hn := sh_new_bad _ K g w h (by omega) h0
  generalize wrg g K = E at *
  have hE : (E != 0) = true := by simpa using h0
  have hs3 := same3 0 0 0
  clear h
  go_enter Try.func3, Try.ntmps3
  go_wp2_with (first
    | (go_at_call 7; refine hn.mono ?_; rintro e w' ⟨rfl, hw'⟩; subst w'; clear hn)
    | (go_at_call 8; refine hw.mono ?_; rintro e w1 ⟨rfl, m, hm⟩; have H1 : Hid (More w w1) := Hid.mk (by rw [hm]; exact More.drewN _ _); clear hm hw)
    | (go_at_call 9; refine (shn_len _).mono ?_; rintro e w' ⟨rfl, hw'⟩; subst w')
    | (go_at_call 10; refine (shn_at _ _).mono ?_; rintro e w' ⟨rfl, hw'⟩; subst w')
    | (go_at_call 11; refine (shn_size _).mono ?_; rintro e w' ⟨rfl, hw'⟩; subst w')
    | (go_at_call 12; refine (shn_kinds _).mono ?_; rintro e w2 ⟨rfl, hm⟩; have H2 := Hid.mk (More.trans H1.out hm); clear hm)
    | (go_at_call 6; refine (sh_live _).mono ?_; rintro e w3 ⟨rfl, hm⟩; have H3 := Hid.mk (More.trans H2.out hm); clear hm))
  go_ret
  exact ⟨rfl, H3.out⟩

/-- The class of the worlds in which one cell is read. -/
theorem held1 {wr w w' : World} {a : Addr} {u : Value} (h : More wr w ∧ w.cell? a = some u) (k : More w w') : More wr w' ∧ w'.cell? a = some u :=
  ⟨More.trans h.1 k, (k.cell (World.block_lt_of_cell? w _ h.2)).trans h.2⟩

set_option maxHeartbeats 1600000 in
set_option maxRecDepth 1000000 in
theorem makes_good (ao : Option Addr) (K cap : Nat) (f : Nat → Nat) (x : Int) (w : World) (h : ZRd w (.slice ao K cap) K (fun j => (f j : Int))) (hC : Climbs f K) (hb : K ≤ 200) (hcap : K ≤ cap) (h0 : wrg (fun j => (f j : Int)) K = 0) :
    Calls Try.prog 3 #[.slice ao K cap, .int .i64 x] w fun e w' => e = .returned (.bool true) ∧ Below w.heap.size w w' := by
  have hw := fun w1 (hm : More w w1) => ref_wrong _ K _ w1 (h.more hm) (by omega)
  rw [h0] at hw
  have hnew := sh_new ao K cap f w h hcap hC (by omega)
  have rt := fun w1 (hm : More w w1) => ref_at _ K f x w1 (h.more hm)
  have hs3 := same3 0 0 0
  have HH := Hid.mk h
  clear h hC h0
  go_enter Try.func3, Try.ntmps3
  go_wp2_with (first
    | (go_at_call 7; refine hnew.mono ?_; rintro e w1 ⟨s, rfl, hs, hm⟩; have H1 := Hid.mk (And.intro hs hm); clear hs hm hnew)
    | (go_at_call 8; refine (hw _ H1.out.2).mono ?_; rintro e w2 ⟨rfl, m, hm⟩; have H2 : Hid (More w1 w2) := Hid.mk (by rw [hm]; exact More.drewN _ _); clear hm hw)
    | (go_at_call 9; refine (shn_len _).mono ?_; rintro e w' ⟨rfl, hw'⟩; subst w')
    | (go_at_call 10; refine (shn_at _ _).mono ?_; rintro e w' ⟨rfl, hw'⟩; subst w')
    | (go_at_call 11; refine (shn_size _).mono ?_; rintro e w' ⟨rfl, hw'⟩; subst w')
    | (go_at_call 12; refine (shn_kinds _).mono ?_; rintro e w3 ⟨rfl, hm⟩; have H3 := Hid.mk (More.trans H2.out hm); clear hm))
  go_loopw [9] (fun i wr => ∃ k : Nat, k ≤ K ∧ i = .int .i64 k ∧ Hid (More w1 wr)) (fun i _ => K - (intOf i).toNat)
  case atStart => exact ⟨0, Nat.zero_le _, rfl, H3⟩
  case round =>
    obtain ⟨k, hk, rfl, HR⟩ := hrel
    by_cases hkK : k < K
    · obtain ⟨bl, o, rfl, hc⟩ := HH.out.cell (w' := wr) k hkK
      have hck := hc (More.trans H1.out.2 HR.out)
      clear hc
      have hat := fun w' (hm : More wr w') => sh_at _ s f K k w' (H1.out.1.more (More.trans HR.out hm))
      rw [atZ_in f K k hkK] at hat
      generalize f k = z at *
      go_wp2_with fail
      go_region_held3 (fun w' => More wr w' ∧ w'.cell? ⟨bl, o + k, none⟩ = some (.int .i64 (z : Int)))
        (first | assumption | exact held1 (by assumption) (by assumption) | exact held1 ⟨Below.refl _ _, hck⟩ (More.drewN _ 1))
        ((go_at_call 10; refine (hat _ (And.left (by assumption))).mono ?_; rintro e w4 ⟨rfl, hm4⟩))
      all_goals
        have H4 := Hid.mk (More.trans HR.out (And.left (by assumption : More wr _ ∧ _)))
        go_wp2
        exact ⟨⟨k + 1, by omega, by go_num, H4⟩, by simp [intOf]; omega⟩
    · have hlen := sh_len _ s f K wr (H1.out.1.more HR.out)
      have hat := sh_at _ s f K x wr (H1.out.1.more HR.out)
      have Hm := Hid.mk (More.trans H1.out.2 HR.out)
      generalize atZ f K x = Y at *
      obtain rfl : k = K := by omega
      clear hk hkK
      go_wp2_with (first
        | (go_at_call 9; refine hlen.mono ?_; rintro e w' ⟨rfl, hw'⟩; subst w'; clear hlen)
        | (go_at_call 10; refine hat.mono ?_; rintro e w4 ⟨rfl, hm⟩; have H4 := Hid.mk (More.trans Hm.out hm); clear hm hat)
        | (go_at_call 13; refine (rt _ H4.out).mono ?_; rintro e w' ⟨rfl, hw'⟩; subst w'; clear rt)
        | (go_at_call 6; refine (sh_live _).mono ?_; rintro e w5 ⟨rfl, hm⟩; have H5 := Hid.mk (More.trans H4.out hm); clear hm))
      go_ret
      exact ⟨rfl, H5.out⟩

theorem shardMakes (ao : Option Addr) (K cap : Nat) (g : Nat → Int) (x : Int) (w : World) (h : ZRd w (.slice ao K cap) K g) (hK : K ≤ 9223372036854775807) (hcap : K ≤ cap) :
    Calls Try.prog 3 #[.slice ao K cap, .int .i64 x] w fun e w' => e = .returned (.bool true) ∧ Below w.heap.size w w' := by
  by_cases hb : 200 < K
  · exact makes_big ao K cap x w hK hb
  by_cases h0 : wrg g K = 0
  · exact makes_good ao K cap _ x w (tell h h0) (wrg_climbs g K h0).2 (by omega) hcap (wrg_tell g K h0)
  · exact makes_bad ao K cap g x w h (by omega) h0

end Go.Proofs.Ytheieibkbeckkaa
