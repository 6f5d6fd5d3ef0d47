/-
  block: container/heap's down, Push, Pop.
-/
import Derived.Test.YtpmgojnlbmiaeaaBlkB
namespace Go.Proofs.Ytpmgojnlbmiaeaa
open Go.RowKit

section
variable {w w1 : World} {base b N : Nat} {size most : Int} {vo vf : Value} {tk : Nat → Bool} {tx : Nat → List UInt8} {vb : Nat → Value} {F : List Nat}
theorem Sto.drew {q : Nat} (h : Sto w base b size most N vo vf tk tx vb F) (e : w1 = w.drewN q) : Sto w1 base b size most N vo vf tk tx vb F ∧ KeepsT BT base w w1 := by
  subst e; exact ⟨h.drawn q, KeepsT.more (More.drewN w q) h.sz⟩
end
theorem getD_sw {F : List Nat} {i j m k : Nat} (hi : i < m) (hj : j < m) (hm : m ≤ F.length) (hk : m ≤ k) : (sw F i j).getD k 0 = F.getD k 0 := by
  rw [sw_get F (by omega) (by omega), if_neg (by omega), if_neg (by omega)]

def IsBool (e : Ending) : Prop := ∃ r, e = .returned (.bool r)
set_option maxHeartbeats 4000000 in
set_option maxRecDepth 1000000 in
theorem hp_down (w : World) (base b N g cap : Nat) (size most : Int) (vo : Value) (tk : Nat → Bool) (tx : Nat → List UInt8) (vb : Nat → Value) (F : List Nat) (n m : Nat) (hn : F.length = n) (hl : n ≤ 2000000) (hmn : m ≤ n)
    (h : Sto w base b size most N vo (.slice (some ⟨g, 0, none⟩) n cap) tk tx vb F) (hD : HpDn F m 0) :
    Calls Try.prog 31 #[.iface 64 (.pointer (some ⟨b, 3, none⟩)), .int .i64 0, .int .i64 m] w fun e w' => IsBool e ∧ ∃ G, Sto w' base b size most N vo (.slice (some ⟨g, 0, none⟩) n cap) tk tx vb G ∧ G.Perm F ∧ Hp G m ∧ (∀ k, m ≤ k → G.getD k 0 = F.getD k 0) ∧ KeepsT BT base w w' := by
  have H0 := Hid.mk (And.intro h hD)
  clear h hD
  go_enter Try.func31, Try.ntmps31
  go_wp2
  go_loopw [7] (fun iv wr => ∃ (k : Nat) (G : List Nat), (k = 0 ∨ k < m) ∧ iv = .int .i64 k ∧ Hid (Sto wr base b size most N vo (.slice (some ⟨g, 0, none⟩) n cap) tk tx vb G ∧ G.Perm F ∧ HpDn G m k ∧ (∀ k, m ≤ k → G.getD k 0 = F.getD k 0) ∧ KeepsT BT base w wr)) (fun iv _ => m - (intOf iv).toNat)
  case atStart => exact ⟨0, F, .inl rfl, rfl, Hid.mk ⟨H0.out.1, List.Perm.refl _, H0.out.2, fun _ _ => rfl, KeepsT.refl _ _ _⟩⟩
  case round =>
    obtain ⟨k, G, hk, rfl, HR⟩ := hrel
    have hGn : G.length = n := HR.out.2.1.length_eq.trans hn
    by_cases hA : 2 * k + 1 < m
    case neg =>
      have hA' : ¬ (2 * (k : Int) + 1 < m) := by omega
      go_wp2
      go_ret
      exact ⟨⟨_, rfl⟩, G, HR.out.1, HR.out.2.1, HR.out.2.2.1.done (fun j hj hc => by omega), HR.out.2.2.2⟩
    have hSG : ∀ {w1 : World}, Sto w1 base b size most N vo (.slice (some ⟨g, 0, none⟩) n cap) tk tx vb G → Sto w1 base b size most N vo (.slice (some ⟨g, 0, none⟩) G.length cap) tk tx vb G := fun h => by rw [hGn]; exact h
    have hLe : ∀ (w1 : World) (i j : Nat), i < n → j < n → Sto w1 base b size most N vo (.slice (some ⟨g, 0, none⟩) n cap) tk tx vb G → Calls Try.prog 49 #[.slice (some ⟨g, 0, none⟩) n cap, .int .i64 i, .int .i64 j] w1 fun e w' => e = .returned (.bool (decide (G.getD i 0 < G.getD j 0))) ∧ ∃ q, w' = w1.drewN q := fun w1 i j hi hj hS => by
      have := st_less (hSG hS) (i := i) (j := j) (by omega) (by omega)
      rw [hGn] at this; exact this
    have hSw : ∀ (w1 : World) (i j : Nat), i < n → j < n → Sto w1 base b size most N vo (.slice (some ⟨g, 0, none⟩) n cap) tk tx vb G → Calls Try.prog 50 #[.slice (some ⟨g, 0, none⟩) n cap, .int .i64 i, .int .i64 j] w1 fun e w' => e = .returned (.tuple #[]) ∧ Sto w' base b size most N vo (.slice (some ⟨g, 0, none⟩) n cap) tk tx vb (sw G i j) ∧ KeepsT BT base w1 w' := fun w1 i j hi hj hS => by
      have := st_swap (hSG hS) (i := i) (j := j) (by omega) (by omega)
      rw [hGn] at this; exact this
    have HC := Hid.mk (And.intro hLe (And.intro hSw hGn))
    clear hSG hLe hSw hGn
    have hls := less_is HR.out.1.cell3.1
    by_cases hB : 2 * k + 2 < m
    · have hfirst := HC.out.1 wr (2 * k + 2) (2 * k + 1) (by omega) (by omega) HR.out.1
      by_cases hC : G.getD (2 * k + 2) 0 < G.getD (2 * k + 1) 0
      · rw [decide_eq_true hC] at hfirst
        have HM := Hid.mk (show ∀ j, j < m → j = 2 * k + 1 ∨ j = 2 * k + 2 → G.getD (2 * k + 2) 0 ≤ G.getD j 0 from fun j hj hc => by rcases hc with rfl | rfl <;> omega)
        clear hC
        by_cases hlt : G.getD (2 * k + 2) 0 < G.getD k 0
        · have HL := Hid.mk hlt
          clear hlt
          go_wp2_with (first
            | (have T := hfirst; clear T; go_at_call 49; refine hfirst.mono ?_; clear hfirst; rintro e w1 ⟨rfl, q, hw1⟩; obtain ⟨hS1, hK1⟩ := HR.out.1.drew hw1; have hls := less_is hS1.cell3.1; have hle := HC.out.1 w1 (2 * k + 2) k (by omega) (by omega) hS1; rw [decide_eq_true HL.out] at hle; have H1 := Hid.mk (And.intro hS1 hK1); clear hS1 hK1 hw1)
            | (go_at_call 49; refine hle.mono ?_; rintro e w2 ⟨rfl, q2, hw2⟩; obtain ⟨hS2, hK2⟩ := H1.out.1.drew hw2; have hss := swap_is hS2.cell3.1; have hsw := HC.out.2.1 w2 k (2 * k + 2) (by omega) (by omega) hS2; have H2 := Hid.mk (And.intro hS2 (H1.out.2.trans hK2)); clear hS2 hK2 hw2)
            | (go_at_call 50; refine hsw.mono ?_; rintro e w3 ⟨rfl, hS3, hK3⟩; have H3 := Hid.mk (And.intro hS3 (H2.out.2.trans hK3)); clear hS3 hK3))
          refine ⟨⟨2 * k + 2, sw G k (2 * k + 2), by omega, by go_num, Hid.mk ⟨H3.out.1, (sw_perm G (by rw [HC.out.2.2]; omega) (by rw [HC.out.2.2]; omega)).trans HR.out.2.1, HR.out.2.2.1.next (by omega) (.inr rfl) HL.out HM.out, fun i hi => (getD_sw (m := m) (by omega) (by omega) (by rw [HC.out.2.2]; omega) hi).trans (HR.out.2.2.2.1 i hi), HR.out.2.2.2.2.trans H3.out.2⟩⟩, by simp [intOf]; omega⟩
        · have HL := Hid.mk hlt
          clear hlt
          go_wp2_with (first
            | (have T := hfirst; clear T; go_at_call 49; refine hfirst.mono ?_; clear hfirst; rintro e w1 ⟨rfl, q, hw1⟩; obtain ⟨hS1, hK1⟩ := HR.out.1.drew hw1; have hls := less_is hS1.cell3.1; have hle := HC.out.1 w1 (2 * k + 2) k (by omega) (by omega) hS1; rw [decide_eq_false HL.out] at hle; have H1 := Hid.mk (And.intro hS1 hK1); clear hS1 hK1 hw1)
            | (go_at_call 49; refine hle.mono ?_; rintro e w2 ⟨rfl, q2, hw2⟩; obtain ⟨hS2, hK2⟩ := H1.out.1.drew hw2; have hss := swap_is hS2.cell3.1; have hsw := HC.out.2.1 w2 k (2 * k + 2) (by omega) (by omega) hS2; have H2 := Hid.mk (And.intro hS2 (H1.out.2.trans hK2)); clear hS2 hK2 hw2))
          go_ret
          exact ⟨⟨_, rfl⟩, G, H2.out.1, HR.out.2.1, HR.out.2.2.1.done (fun j hj hc => by have := HM.out j hj hc; have := HL.out; omega), HR.out.2.2.2.1, HR.out.2.2.2.2.trans H2.out.2⟩
      · rw [decide_eq_false hC] at hfirst
        have HM := Hid.mk (show ∀ j, j < m → j = 2 * k + 1 ∨ j = 2 * k + 2 → G.getD (2 * k + 1) 0 ≤ G.getD j 0 from fun j hj hc => by rcases hc with rfl | rfl <;> omega)
        clear hC
        by_cases hlt : G.getD (2 * k + 1) 0 < G.getD k 0
        · have HL := Hid.mk hlt
          clear hlt
          go_wp2_with (first
            | (have T := hfirst; clear T; go_at_call 49; refine hfirst.mono ?_; clear hfirst; rintro e w1 ⟨rfl, q, hw1⟩; obtain ⟨hS1, hK1⟩ := HR.out.1.drew hw1; have hls := less_is hS1.cell3.1; have hle := HC.out.1 w1 (2 * k + 1) k (by omega) (by omega) hS1; rw [decide_eq_true HL.out] at hle; have H1 := Hid.mk (And.intro hS1 hK1); clear hS1 hK1 hw1)
            | (go_at_call 49; refine hle.mono ?_; rintro e w2 ⟨rfl, q2, hw2⟩; obtain ⟨hS2, hK2⟩ := H1.out.1.drew hw2; have hss := swap_is hS2.cell3.1; have hsw := HC.out.2.1 w2 k (2 * k + 1) (by omega) (by omega) hS2; have H2 := Hid.mk (And.intro hS2 (H1.out.2.trans hK2)); clear hS2 hK2 hw2)
            | (go_at_call 50; refine hsw.mono ?_; rintro e w3 ⟨rfl, hS3, hK3⟩; have H3 := Hid.mk (And.intro hS3 (H2.out.2.trans hK3)); clear hS3 hK3))
          refine ⟨⟨2 * k + 1, sw G k (2 * k + 1), by omega, by go_num, Hid.mk ⟨H3.out.1, (sw_perm G (by rw [HC.out.2.2]; omega) (by rw [HC.out.2.2]; omega)).trans HR.out.2.1, HR.out.2.2.1.next (by omega) (.inl rfl) HL.out HM.out, fun i hi => (getD_sw (m := m) (by omega) (by omega) (by rw [HC.out.2.2]; omega) hi).trans (HR.out.2.2.2.1 i hi), HR.out.2.2.2.2.trans H3.out.2⟩⟩, by simp [intOf]; omega⟩
        · have HL := Hid.mk hlt
          clear hlt
          go_wp2_with (first
            | (have T := hfirst; clear T; go_at_call 49; refine hfirst.mono ?_; clear hfirst; rintro e w1 ⟨rfl, q, hw1⟩; obtain ⟨hS1, hK1⟩ := HR.out.1.drew hw1; have hls := less_is hS1.cell3.1; have hle := HC.out.1 w1 (2 * k + 1) k (by omega) (by omega) hS1; rw [decide_eq_false HL.out] at hle; have H1 := Hid.mk (And.intro hS1 hK1); clear hS1 hK1 hw1)
            | (go_at_call 49; refine hle.mono ?_; rintro e w2 ⟨rfl, q2, hw2⟩; obtain ⟨hS2, hK2⟩ := H1.out.1.drew hw2; have hss := swap_is hS2.cell3.1; have hsw := HC.out.2.1 w2 k (2 * k + 1) (by omega) (by omega) hS2; have H2 := Hid.mk (And.intro hS2 (H1.out.2.trans hK2)); clear hS2 hK2 hw2))
          go_ret
          exact ⟨⟨_, rfl⟩, G, H2.out.1, HR.out.2.1, HR.out.2.2.1.done (fun j hj hc => by have := HM.out j hj hc; have := HL.out; omega), HR.out.2.2.2.1, HR.out.2.2.2.2.trans H2.out.2⟩
    · have hB' : ¬ (2 * (k : Int) + 1 + 1 < m) := by omega
      have HM := Hid.mk (show ∀ j, j < m → j = 2 * k + 1 ∨ j = 2 * k + 2 → G.getD (2 * k + 1) 0 ≤ G.getD j 0 from fun j hj hc => by rcases hc with rfl | rfl <;> omega)
      by_cases hlt : G.getD (2 * k + 1) 0 < G.getD k 0
      · have HL := Hid.mk hlt
        clear hlt
        have hle := HC.out.1 wr (2 * k + 1) k (by omega) (by omega) HR.out.1
        rw [decide_eq_true HL.out] at hle
        have H1 := Hid.mk (And.intro HR.out.1 (KeepsT.refl BT base wr))
        go_wp2_with (first
          | (go_at_call 49; refine hle.mono ?_; rintro e w2 ⟨rfl, q2, hw2⟩; obtain ⟨hS2, hK2⟩ := H1.out.1.drew hw2; have hss := swap_is hS2.cell3.1; have hsw := HC.out.2.1 w2 k (2 * k + 1) (by omega) (by omega) hS2; have H2 := Hid.mk (And.intro hS2 (H1.out.2.trans hK2)); clear hS2 hK2 hw2)
          | (go_at_call 50; refine hsw.mono ?_; rintro e w3 ⟨rfl, hS3, hK3⟩; have H3 := Hid.mk (And.intro hS3 (H2.out.2.trans hK3)); clear hS3 hK3))
        refine ⟨⟨2 * k + 1, sw G k (2 * k + 1), by omega, by go_num, Hid.mk ⟨H3.out.1, (sw_perm G (by rw [HC.out.2.2]; omega) (by rw [HC.out.2.2]; omega)).trans HR.out.2.1, HR.out.2.2.1.next (by omega) (.inl rfl) HL.out HM.out, fun i hi => (getD_sw (m := m) (by omega) (by omega) (by rw [HC.out.2.2]; omega) hi).trans (HR.out.2.2.2.1 i hi), HR.out.2.2.2.2.trans H3.out.2⟩⟩, by simp [intOf]; omega⟩
      · have HL := Hid.mk hlt
        clear hlt
        have hle := HC.out.1 wr (2 * k + 1) k (by omega) (by omega) HR.out.1
        rw [decide_eq_false HL.out] at hle
        have H1 := Hid.mk (And.intro HR.out.1 (KeepsT.refl BT base wr))
        go_wp2_with (first
          | (go_at_call 49; refine hle.mono ?_; rintro e w2 ⟨rfl, q2, hw2⟩; obtain ⟨hS2, hK2⟩ := H1.out.1.drew hw2; have hss := swap_is hS2.cell3.1; have hsw := HC.out.2.1 w2 k (2 * k + 1) (by omega) (by omega) hS2; have H2 := Hid.mk (And.intro hS2 (H1.out.2.trans hK2)); clear hS2 hK2 hw2))
        go_ret
        exact ⟨⟨_, rfl⟩, G, H2.out.1, HR.out.2.1, HR.out.2.2.1.done (fun j hj hc => by have := HM.out j hj hc; have := HL.out; omega), HR.out.2.2.2.1, HR.out.2.2.2.2.trans H2.out.2⟩
end Go.Proofs.Ytpmgojnlbmiaeaa
