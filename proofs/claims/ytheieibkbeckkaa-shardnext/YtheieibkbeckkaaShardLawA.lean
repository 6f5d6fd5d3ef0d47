/-
  ShardNext, ShardKinds and ShardMakes walked.
-/
import Derived.Test.YtheieibkbeckkaaShardTell
import Derived.Test.YtheieibkbeckkaaShardLive
import Derived.Test.YtheieibkbeckkaaShardRefC
namespace Go.Proofs.Ytheieibkbeckkaa
open Go.RowKit

theorem next_big (ao : Option Addr) (K cap : Nat) (x : Int) (w : World) (hK : K ≤ 9223372036854775807) (hb : 200 < K) :
    Calls Try.prog 4 #[.slice ao K cap, .int .i64 x] w fun e w' => e = .returned (.bool true) ∧ Below w.heap.size w w' := by
  go_enter Try.func4, Try.ntmps4
  go_wp2_with (go_at_call 6; refine (sh_live _).mono ?_; rintro e w1 ⟨rfl, hm⟩; have H1 := Hid.mk hm; clear hm)
  go_ret
  exact ⟨rfl, H1.out⟩
theorem next_bad (ao : Option Addr) (K cap : Nat) (g : Nat → Int) (x : Int) (w : World) (h : ZRd w (.slice ao K cap) K g) (hb : K ≤ 200) (h0 : wrg g K ≠ 0) :
    Calls Try.prog 4 #[.slice ao K cap, .int .i64 x] w fun e w' => e = .returned (.bool true) ∧ Below w.heap.size w w' := by
  have hw := ref_wrong _ K g w h (by omega)
  generalize wrg g K = E at *
  have hE : (E != 0) = true := by simpa using h0
  clear h
  go_enter Try.func4, Try.ntmps4
  go_wp2_with (first
    | (go_at_call 8; refine hw.mono ?_; rintro e w1 ⟨rfl, m, hm⟩; subst w1)
    | (go_at_call 6; refine (sh_live _).mono ?_; rintro e w2 ⟨rfl, hm⟩; have H2 := Hid.mk hm; clear hm))
  go_ret
  exact ⟨rfl, More.trans (More.drewN _ _) H2.out⟩

set_option maxHeartbeats 1600000 in
set_option maxRecDepth 1000000 in
theorem next_good (ao : Option Addr) (K cap : Nat) (f : Nat → Nat) (x : Int) (w : World) (h : ZRd w (.slice ao K cap) K (fun j => (f j : Int))) (hC : Climbs f K) (hb : K ≤ 200) (hcap : K ≤ cap) (h0 : wrg (fun j => (f j : Int)) K = 0) (hx : x ≤ 9223372036854775807) :
    Calls Try.prog 4 #[.slice ao K cap, .int .i64 x] w fun e w' => e = .returned (.bool true) ∧ Below w.heap.size w w' := by
  have hw := ref_wrong _ K _ w h (by omega)
  rw [h0] at hw
  have hnew := fun w1 (hm : More w w1) => sh_new ao K cap f w1 (h.more hm) hcap hC (by omega)
  have hn : ∀ s base w1, ShAt w1 base s f K → _ := fun s base w1 hs => sh_next base s f K x w1 hs hx
  have rn := fun w1 (hm : More w w1) => ref_next _ K f x w1 (h.more hm) hC (by omega)
  have rt := fun w1 (hm : More w w1) => ref_at _ K f (nextZ f K x) w1 (h.more hm)
  generalize atZ f K (nextZ f K x) = X' at *
  generalize nextZ f K x = X at *
  clear h hC h0
  go_enter Try.func4, Try.ntmps4
  go_wp2_with (first
    | (go_at_call 8; refine hw.mono ?_; rintro e w1 ⟨rfl, m, hm⟩; subst w1; clear hw)
    | (go_at_call 7; refine (hnew _ (More.drewN _ _)).mono ?_; rintro e w2 ⟨s, rfl, hs, hm⟩; have H2 := Hid.mk (And.intro hs (More.trans (More.drewN _ _) hm)); clear hs hm hnew)
    | (go_at_call_of 14 (Value.pointer none); refine (shn_next _ _).mono ?_; rintro e w' ⟨rfl, hw'⟩; subst w')
    | (go_at_call 14; refine (hn s _ w2 H2.out.1).mono ?_; rintro e w3 ⟨rfl, hm⟩; have H3 := Hid.mk (More.trans H2.out.2 hm); clear hm hn)
    | (go_at_call 15; refine (rn _ H3.out).mono ?_; rintro e w' ⟨rfl, hw'⟩; subst w'; clear rn)
    | (go_at_call 13; refine (rt _ H3.out).mono ?_; rintro e w' ⟨rfl, hw'⟩; subst w')
    | (go_at_call 6; refine (sh_live _).mono ?_; rintro e w5 ⟨rfl, hm⟩; have H5 := Hid.mk (More.trans H3.out hm); clear hm))
  go_ret
  exact ⟨rfl, H5.out⟩

theorem shardNext (ao : Option Addr) (K cap : Nat) (g : Nat → Int) (x : Int) (w : World) (h : ZRd w (.slice ao K cap) K g) (hK : K ≤ 9223372036854775807) (hcap : K ≤ cap) (hx : x ≤ 9223372036854775807) :
    Calls Try.prog 4 #[.slice ao K cap, .int .i64 x] w fun e w' => e = .returned (.bool true) ∧ Below w.heap.size w w' := by
  by_cases hb : 200 < K
  · exact next_big ao K cap x w hK hb
  by_cases h0 : wrg g K = 0
  · exact next_good ao K cap _ x w (tell h h0) (wrg_climbs g K h0).2 (by omega) hcap (wrg_tell g K h0) hx
  · exact next_bad ao K cap g x w h (by omega) h0

theorem kinds_big (ao : Option Addr) (K cap : Nat) (w : World) (hK : K ≤ 9223372036854775807) (hb : 200 < K) :
    Calls Try.prog 5 #[.slice ao K cap] w fun e w' => e = .returned (.bool true) ∧ Below w.heap.size w w' := by
  go_enter Try.func5, Try.ntmps5
  go_wp2_with (go_at_call 6; refine (sh_live _).mono ?_; rintro e w1 ⟨rfl, hm⟩; have H1 := Hid.mk hm; clear hm)
  go_ret
  exact ⟨rfl, H1.out⟩
theorem kinds_bad (ao : Option Addr) (K cap : Nat) (g : Nat → Int) (w : World) (h : ZRd w (.slice ao K cap) K g) (hb : K ≤ 200) (h0 : wrg g K ≠ 0) :
    Calls Try.prog 5 #[.slice ao K cap] w fun e w' => e = .returned (.bool true) ∧ Below w.heap.size w w' := by
  have hw := ref_wrong _ K g w h (by omega)
  generalize wrg g K = E at *
  have hE : (E != 0) = true := by simpa using h0
  clear h
  go_enter Try.func5, Try.ntmps5
  go_wp2_with (first
    | (go_at_call 8; refine hw.mono ?_; rintro e w1 ⟨rfl, m, hm⟩; subst w1)
    | (go_at_call 6; refine (sh_live _).mono ?_; rintro e w2 ⟨rfl, hm⟩; have H2 := Hid.mk hm; clear hm))
  go_ret
  exact ⟨rfl, More.trans (More.drewN _ _) H2.out⟩

set_option maxHeartbeats 1600000 in
set_option maxRecDepth 1000000 in
theorem kinds_good (ao : Option Addr) (K cap : Nat) (f : Nat → Nat) (w : World) (h : ZRd w (.slice ao K cap) K (fun j => (f j : Int))) (hC : Climbs f K) (hb : K ≤ 200) (hcap : K ≤ cap) (h0 : wrg (fun j => (f j : Int)) K = 0) :
    Calls Try.prog 5 #[.slice ao K cap] w fun e w' => e = .returned (.bool true) ∧ Below w.heap.size w w' := by
  have hw := ref_wrong _ K _ w h (by omega)
  rw [h0] at hw
  have hnew := fun w1 (hm : More w w1) => sh_new ao K cap f w1 (h.more hm) hcap hC (by omega)
  have hk : ∀ s base w1, ShAt w1 base s f K → _ := fun s base w1 hs => sh_kinds base s f K w1 hs
  have hz : ∀ s base w1, ShAt w1 base s f K → _ := fun s base w1 hs => sh_size base s f K w1 hs
  have rk := fun w1 (hm : More w w1) => refs_kinds ao K cap f w1 (h.more hm) hC (by omega) hcap
  have rz := fun w1 (hm : More w w1) => refs_size ao K cap f w1 (h.more hm) hC (by omega) hcap
  generalize kcnt f K 0 (prts K) = x0 at *
  generalize kcnt f K 1 (prts K) = x1 at *
  generalize kcnt f K 2 (prts K) = x2 at *
  generalize shSize f K = Z at *
  have hs3 := same3 x0 x1 x2
  clear h hC h0
  go_enter Try.func5, Try.ntmps5
  go_wp2_with (first
    | (go_at_call 8; refine hw.mono ?_; rintro e w1 ⟨rfl, m, hm⟩; subst w1; clear hw)
    | (go_at_call 7; refine (hnew _ (More.drewN _ _)).mono ?_; rintro e w2 ⟨s, rfl, hs, hm⟩; have H2 := Hid.mk (And.intro hs (More.trans (More.drewN _ _) hm)); clear hs hm hnew)
    | (go_at_call 12; refine (hk s _ w2 H2.out.1).mono ?_; rintro e w3 ⟨rfl, hm⟩; have H3 := Hid.mk (And.intro (H2.out.1.more hm) (More.trans H2.out.2 hm)); clear hm hk)
    | (go_at_call 16; refine (rk _ H3.out.2).mono ?_; rintro e w4 ⟨rfl, hm⟩; have H4 := Hid.mk (And.intro (H3.out.1.more hm) (More.trans H3.out.2 hm)); clear hm rk)
    | (go_at_call 11; refine (hz s _ w4 H4.out.1).mono ?_; rintro e w5 ⟨rfl, hm⟩; have H5 := Hid.mk (More.trans H4.out.2 hm); clear hm hz)
    | (go_at_call 17; refine (rz _ H5.out).mono ?_; rintro e w6 ⟨rfl, hm⟩; have H6 := Hid.mk (More.trans H5.out hm); clear hm rz)
    | (go_at_call 6; refine (sh_live _).mono ?_; rintro e w7 ⟨rfl, hm⟩; have H7 := Hid.mk (More.trans H6.out hm); clear hm))
  go_ret
  exact ⟨rfl, H7.out⟩

theorem shardKinds (ao : Option Addr) (K cap : Nat) (g : Nat → Int) (w : World) (h : ZRd w (.slice ao K cap) K g) (hK : K ≤ 9223372036854775807) (hcap : K ≤ cap) :
    Calls Try.prog 5 #[.slice ao K cap] w fun e w' => e = .returned (.bool true) ∧ Below w.heap.size w w' := by
  by_cases hb : 200 < K
  · exact kinds_big ao K cap w hK hb
  by_cases h0 : wrg g K = 0
  · exact kinds_good ao K cap _ w (tell h h0) (wrg_climbs g K h0).2 (by omega) hcap (wrg_tell g K h0)
  · exact kinds_bad ao K cap g w h (by omega) h0

end Go.Proofs.Ytheieibkbeckkaa
