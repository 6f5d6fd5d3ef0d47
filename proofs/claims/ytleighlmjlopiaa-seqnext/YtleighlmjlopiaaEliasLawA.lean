/-
  SeqNext and SeqMakes walked.
-/
import Derived.Test.YtleighlmjlopiaaEliasLive
namespace Go.Proofs.Ytleighlmjlopiaa
open Go.RowKit

theorem tell {w : World} {v : Value} {K : Nat} {g : Nat → Int} (h : ZRd w v K g) (h0 : wrg g K = 0) : ZRd w v K (fun j => (((g j).toNat : Nat) : Int)) := h.congr (wrg_climbs g K h0).1

theorem wrg_tell (g : Nat → Int) (K : Nat) (h0 : wrg g K = 0) : wrg (fun j => (((g j).toNat : Nat) : Int)) K = 0 := by
  have hf : ∀ k, k ≤ K → wrg (fun j => (((g j).toNat : Nat) : Int)) k = wrg g k := fun k => by
    induction k with
    | zero => intro _; rfl
    | succ k ih =>
      intro hk
      have e1 := (wrg_climbs g K h0).1 k (by omega)
      have e2 : 0 < k → g (k - 1) = ((g (k - 1)).toNat : Nat) := fun _ => (wrg_climbs g K h0).1 (k - 1) (by omega)
      rw [wrg, wrg, ih (by omega), ← e1]
      by_cases hk0 : 0 < k
      · rw [← e2 hk0]
      · simp [hk0]
  rw [hf K (Nat.le_refl _)]; exact h0

theorem next_big (v : Value) (K : Nat) (g : Nat → Int) (x : Int) (w : World) (h : ZRd w v K g) (hK : K ≤ 9223372036854775807) (hb : 80 < K) :
    Calls Try.prog 4 #[v, .int .i64 x] w fun e w' => e = .returned (.bool true) ∧ Below w.heap.size w w' := by
  obtain ⟨ao, cap, rfl⟩ := h.shape
  clear h
  go_enter Try.func4, Try.ntmps4
  go_wp2_with (go_at_call 7; refine (el_live _).mono ?_; rintro e w1 ⟨rfl, hm⟩; have H1 := Hid.mk hm; clear hm)
  go_ret
  exact ⟨rfl, H1.out⟩
theorem next_bad (v : Value) (K : Nat) (g : Nat → Int) (x : Int) (w : World) (h : ZRd w v K g) (hb : K ≤ 80) (h0 : wrg g K ≠ 0) :
    Calls Try.prog 4 #[v, .int .i64 x] w fun e w' => e = .returned (.bool true) ∧ Below w.heap.size w w' := by
  have hw := ref_wrong v K g w h (by omega)
  obtain ⟨ao, cap, rfl⟩ := h.shape
  generalize wrg g K = E at *
  have hE : (E != 0) = true := by simpa using h0
  clear h
  go_enter Try.func4, Try.ntmps4
  go_wp2_with (first
    | (go_at_call 9; refine hw.mono ?_; rintro e w1 ⟨rfl, m, hm⟩; subst w1)
    | (go_at_call 7; refine (el_live _).mono ?_; rintro e w2 ⟨rfl, hm⟩; have H2 := Hid.mk hm; clear hm))
  go_ret
  exact ⟨rfl, More.trans (More.drewN _ _) H2.out⟩

set_option maxHeartbeats 1600000 in
set_option maxRecDepth 1000000 in
theorem next_good (v : Value) (K : Nat) (f : Nat → Nat) (x : Int) (w : World) (h : ZRd w v K (fun j => (f j : Int))) (hC : Climbs f K) (hb : K ≤ 80) (h0 : wrg (fun j => (f j : Int)) K = 0) (hx : -9223372036854775808 ≤ x) :
    Calls Try.prog 4 #[v, .int .i64 x] w fun e w' => e = .returned (.bool true) ∧ Below w.heap.size w w' := by
  have hw := ref_wrong v K _ w h (by omega)
  rw [h0] at hw
  have hnew := fun w1 (hm : More w w1) => el_new v K f w1 (h.more hm) hC (by omega)
  have hn : ∀ s base w1, SeqAt w1 base s f K → _ := fun s base w1 hs => el_next base s x f K w1 hs
  have ha : ∀ s base w1, SeqAt w1 base s f K → _ := fun s base w1 hs => el_ahead base s x f K w1 hs hx
  have rn := fun w1 (hm : More w w1) => ref_next v K f x w1 (h.more hm) hC (by omega)
  have ra := fun w1 (hm : More w w1) => ref_ahead v K f x w1 (h.more hm) hC (by omega)
  have rt := fun w1 (hm : More w w1) => ref_at v K f (nextZ f K x) w1 (h.more hm)
  have rs := fun w1 (hm : More w w1) => ref_at v K f (aheadZ f K x) w1 (h.more hm)
  obtain ⟨ao, cap, rfl⟩ := h.shape
  generalize atZ f K (nextZ f K x) = X' at *
  generalize atZ f K (aheadZ f K x) = Y' at *
  generalize nextZ f K x = X at *
  generalize aheadZ f K x = Y at *
  clear h hC h0
  go_enter Try.func4, Try.ntmps4
  go_wp2_with (first
    | (go_at_call 9; refine hw.mono ?_; rintro e w1 ⟨rfl, m, hm⟩; subst w1; clear hw)
    | (go_at_call 8; refine (hnew _ (More.drewN _ _)).mono ?_; rintro e w2 ⟨s, rfl, hs, hm⟩; have H2 := Hid.mk (And.intro hs (More.trans (More.drewN _ _) hm)); clear hs hm hnew)
    | (go_at_call_of 14 (Value.pointer none); refine (eln_next _ _).mono ?_; rintro e w' ⟨rfl, hw'⟩; subst w')
    | (go_at_call_of 15 (Value.pointer none); refine (eln_ahead _ _).mono ?_; rintro e w' ⟨rfl, hw'⟩; subst w')
    | (go_at_call 14; refine (hn s _ w2 H2.out.1).mono ?_; rintro e w3 ⟨rfl, hm⟩; have H3 := Hid.mk (And.intro (H2.out.1.more hm) (More.trans H2.out.2 hm)); clear hm hn)
    | (go_at_call 15; refine (ha s _ w3 H3.out.1).mono ?_; rintro e w4 ⟨rfl, hm⟩; have H4 := Hid.mk (More.trans H3.out.2 hm); clear hm ha)
    | (go_at_call 16; refine (rn _ H4.out).mono ?_; rintro e w' ⟨rfl, hw'⟩; subst w'; clear rn)
    | (go_at_call 17; refine (ra _ H4.out).mono ?_; rintro e w' ⟨rfl, hw'⟩; subst w'; clear ra)
    | (go_at_call_of 13 (Value.int IntKind.i64 X); refine (rt _ H4.out).mono ?_; rintro e w' ⟨rfl, hw'⟩; subst w')
    | (go_at_call_of 13 (Value.int IntKind.i64 Y); refine (rs _ H4.out).mono ?_; rintro e w' ⟨rfl, hw'⟩; subst w')
    | (go_at_call 7; refine (el_live _).mono ?_; rintro e w5 ⟨rfl, hm⟩; have H5 := Hid.mk (More.trans H4.out hm); clear hm))
  go_ret
  exact ⟨rfl, H5.out⟩

theorem seqNext (v : Value) (K : Nat) (g : Nat → Int) (x : Int) (w : World) (h : ZRd w v K g) (hK : K ≤ 9223372036854775807) (hx : -9223372036854775808 ≤ x) :
    Calls Try.prog 4 #[v, .int .i64 x] w fun e w' => e = .returned (.bool true) ∧ Below w.heap.size w w' := by
  by_cases hb : 80 < K
  · exact next_big v K g x w h hK hb
  by_cases h0 : wrg g K = 0
  · exact next_good v K _ x w (tell h h0) (wrg_climbs g K h0).2 (by omega) (wrg_tell g K h0) hx
  · exact next_bad v K g x w h (by omega) h0

end Go.Proofs.Ytleighlmjlopiaa
