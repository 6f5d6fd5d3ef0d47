/-
  law 13's live.
-/
import Derived.Test.YtldenffdicgjlaaTokQ
namespace Go.Proofs.Ytldenffdicgjlaa
open Go.RowKit

def exL : List UInt8 := [97, 32, 32, 98, 10, 10, 32, 60, 115, 62, 32, 99, 32, 10]
theorem exL_all : allS exL = [[[97], [98]], [[99]]] := by decide
/-- A row of texts that has just been laid. -/
theorem SRd.lit {W : World} {cur : Array Value} {ts : List (List UInt8)} {n : Nat} (hn : n = ts.length) (hc : cur.toList = strs ts) (h63 : ts.length ≤ 1000) : SRd (W.alloc (.cells cur 9)) (.slice (some ⟨W.heap.size, 0, none⟩) n n) ts := by
  subst hn
  have hs : cur.size = ts.length := by rw [← Array.length_toList, hc, strs_len]
  refine ⟨0, by rw [strs_len, Nat.mul_one], .inr ⟨W.heap.size, ts.length, cur, rfl, Nat.zero_le _, heap_alloc_new W _, Nat.le_refl _, by unfold maxLen; omega, by rw [Nat.mul_one]; exact hs, ?_⟩⟩
  rw [Nat.mul_one, hc, ← strs_len, List.take_length]

set_option maxRecDepth 1000000 in
set_option maxHeartbeats 3200000 in
theorem live_true (w : World) : Calls Try.prog 7 #[] w fun e w' => e = .returned (.bool true) ∧ More w w' := by
  have hall : ∀ w, Calls Try.prog 17 #[.string (bs exL)] w fun e w' => ∃ v, e = .returned v ∧ Sents w v [[[97], [98]], [[99]]] w' := fun w => by
    have h := (callsIn_wide (n := 32)).1 (tk_all 32 (Nat.le_refl _) exL (by decide) w)
    rw [exL_all] at h
    exact h
  have T1 := Hid.mk True.intro
  have T2 := Hid.mk True.intro
  go_enter Try.func7, Try.ntmps7
  go_wp2_with (first
    | (go_at_call 17; refine (hall _).mono ?_; rintro e w1 ⟨v1, rfl, hS⟩
       obtain ⟨g, cap, rfl, hcell⟩ := hS.rd.form (by decide)
       obtain ⟨u0, c0, r0⟩ := hcell 0 (by decide)
       obtain ⟨u1, c1, r1⟩ := hcell 1 (by decide)
       have hs1 : ∀ (gg : Nat) (hgg : gg = w1.heap.size), Calls Try.prog 8 #[u0, .slice (some ⟨gg, 0, none⟩) 2 2] (w1.alloc (.cells #[.string (bs [97]), .string (bs [98])] 9)) fun e w' => e = .returned (.bool true) ∧ ∃ m, w' = (w1.alloc (.cells #[.string (bs [97]), .string (bs [98])] 9)).drewN m := fun gg hgg => by
         subst hgg
         exact rf_same u0 _ [[97], [98]] [[97], [98]] _ (r0.more (more_alloc _ _)).ard (SRd.lit rfl rfl (by decide)).ard (by decide) (by decide)
       have hs2 : ∀ (W : World) (gg : Nat) (hgg : gg = W.heap.size) (hW : More w1 W), Calls Try.prog 8 #[u1, .slice (some ⟨gg, 0, none⟩) 1 1] (W.alloc (.cells #[.string (bs [99])] 9)) fun e w' => e = .returned (.bool true) ∧ ∃ m, w' = (W.alloc (.cells #[.string (bs [99])] 9)).drewN m := fun W gg hgg hW => by
         subst hgg
         exact rf_same u1 _ [[99]] [[99]] _ (r1.more (More.trans hW (more_alloc _ _))).ard (SRd.lit rfl rfl (by decide)).ard (by decide) (by decide)
       have HM := Hid.mk (And.intro hS.more c1)
       clear hS hcell r0 r1 c1)
    | (have TT := T1; clear T1 TT; go_at_call 8; refine (hs1 _ ?_).mono ?_; · simp
       rintro e w2 ⟨rfl, m, hw2⟩
       have hM2 : More w1 w2 := by rw [hw2]; exact More.trans (more_alloc _ _) (More.drewN _ _)
       have c1 : w2.cell? ⟨g, 1, none⟩ = some u1 := (hM2.cell (World.block_lt_of_cell? _ _ HM.out.2)).trans HM.out.2
       have H2 := Hid.mk hM2
       clear hw2 hM2 hs1)
    | (have TT := T2; clear T2 TT; go_at_call 8; refine (hs2 _ _ ?_ ?_).mono ?_; · simp
       · exact H2.out
       rintro e w3 ⟨rfl, m3, hw3⟩
       have H3 := Hid.mk (show More w w3 by rw [hw3]; exact More.trans HM.out.1 (More.trans H2.out (More.trans (more_alloc _ _) (More.drewN _ _))))
       clear hw3 hs2))
  go_ret
  exact ⟨rfl, H3.out⟩
end Go.Proofs.Ytldenffdicgjlaa
