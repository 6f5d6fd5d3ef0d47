/-
  block: container/heap's up and down, over the free ones of a store.
-/
import Derived.Test.YtpmgojnlbmiaeaaBlkA
namespace Go.Proofs.Ytpmgojnlbmiaeaa
open Go.RowKit

theorem chk_is (a : Addr) (s : String) (w : World) : (Builtin.ssaWrapNilChk_ #[64] 64 #[.pointer (some a), strVal "", strVal s]).run Try.prog w = .ok (.pointer (some a)) w := by kernel_rfl
theorem len_is {w : World} {b n c : Nat} {ao : Option Addr} (h : w.cell? ⟨b, 3, none⟩ = some (.slice ao n c)) : (method 190 64 (.pointer (some ⟨b, 3, none⟩)) "Len").run Try.prog w = .ok (48, .slice ao n c) w := by
  have e1 : (Array.find? (fun x => x.name == "Len") Try.t64.methods).map (fun m => (m.func, m.path)) = some (some (48, false), #[]) := by kernel_rfl
  obtain ⟨m, hm, h1⟩ := Option.map_eq_some_iff.1 e1
  obtain ⟨h1, h2⟩ := Prod.mk.inj h1
  unfold method
  go_simp
  simp only [follow, receiverAt, Place.get]
  have hc := fun s => chk_is ⟨b, 3, none⟩ s w
  go_simp
theorem less_is {w : World} {b n c : Nat} {ao : Option Addr} (h : w.cell? ⟨b, 3, none⟩ = some (.slice ao n c)) : (method 190 64 (.pointer (some ⟨b, 3, none⟩)) "Less").run Try.prog w = .ok (49, .slice ao n c) w := by
  have e1 : (Array.find? (fun x => x.name == "Less") Try.t64.methods).map (fun m => (m.func, m.path)) = some (some (49, false), #[]) := by kernel_rfl
  obtain ⟨m, hm, h1⟩ := Option.map_eq_some_iff.1 e1
  obtain ⟨h1, h2⟩ := Prod.mk.inj h1
  unfold method
  go_simp
  simp only [follow, receiverAt, Place.get]
  have hc := fun s => chk_is ⟨b, 3, none⟩ s w
  go_simp
theorem swap_is {w : World} {b n c : Nat} {ao : Option Addr} (h : w.cell? ⟨b, 3, none⟩ = some (.slice ao n c)) : (method 190 64 (.pointer (some ⟨b, 3, none⟩)) "Swap").run Try.prog w = .ok (50, .slice ao n c) w := by
  have e1 : (Array.find? (fun x => x.name == "Swap") Try.t64.methods).map (fun m => (m.func, m.path)) = some (some (50, false), #[]) := by kernel_rfl
  obtain ⟨m, hm, h1⟩ := Option.map_eq_some_iff.1 e1
  obtain ⟨h1, h2⟩ := Prod.mk.inj h1
  unfold method
  go_simp
  simp only [follow, receiverAt, Place.get]
  have hc := fun s => chk_is ⟨b, 3, none⟩ s w
  go_simp
theorem pop_is (w : World) (b : Nat) : (method 190 64 (.pointer (some ⟨b, 3, none⟩)) "Pop").run Try.prog w = .ok (51, .pointer (some ⟨b, 3, none⟩)) w := by kernel_rfl
theorem push_is (w : World) (b : Nat) : (method 190 64 (.pointer (some ⟨b, 3, none⟩)) "Push").run Try.prog w = .ok (52, .pointer (some ⟨b, 3, none⟩)) w := by kernel_rfl

section
variable {w : World} {base b N g cap : Nat} {size most : Int} {vo : Value} {tk : Nat → Bool} {tx : Nat → List UInt8} {vb : Nat → Value} {F : List Nat}
theorem Sto.cell3 {vf : Value} (h : Sto w base b size most N vo vf tk tx vb F) : w.cell? ⟨b, 3, none⟩ = some vf ∧ w.frozen? ⟨b, 3, none⟩ = false := by
  obtain ⟨_, _, _, h3, _, f3⟩ := wcells4 h.box
  exact ⟨h3, f3⟩
theorem Sto.num (h : Sto w base b size most N vo (.slice (some ⟨g, 0, none⟩) F.length cap) tk tx vb F) {i : Nat} (hi : i < F.length) : w.cell? ⟨g, i, none⟩ = some (.int .i64 (F.getD i 0)) ∧ w.frozen? ⟨g, i, none⟩ = false :=
  ⟨by rw [h.free.cellAt i (by omega), nmv_get F hi], h.free.frozenAt i⟩

/-- Less, of two of the free ones. -/
theorem st_less (h : Sto w base b size most N vo (.slice (some ⟨g, 0, none⟩) F.length cap) tk tx vb F) {i j : Nat} (hi : i < F.length) (hj : j < F.length) :
    Calls Try.prog 49 #[.slice (some ⟨g, 0, none⟩) F.length cap, .int .i64 i, .int .i64 j] w fun e w' => e = .returned (.bool (decide (F.getD i 0 < F.getD j 0))) ∧ ∃ q, w' = w.drewN q :=
  nm_Less g F.length cap i j _ _ w hi hj (h.num hi).1 (h.num hj).1
/-- Swap. -/
theorem st_swap (h : Sto w base b size most N vo (.slice (some ⟨g, 0, none⟩) F.length cap) tk tx vb F) {i j : Nat} (hi : i < F.length) (hj : j < F.length) :
    Calls Try.prog 50 #[.slice (some ⟨g, 0, none⟩) F.length cap, .int .i64 i, .int .i64 j] w fun e w' => e = .returned (.tuple #[]) ∧ Sto w' base b size most N vo (.slice (some ⟨g, 0, none⟩) F.length cap) tk tx vb (sw F i j) ∧ KeepsT BT base w w' := by
  refine (nm_Swap g F.length cap i j _ _ w hi hj (h.num hi).1 (h.num hj).1 (h.num hi).2 (h.num hj).2).mono ?_
  rintro e w' ⟨rfl, q, rfl⟩
  have h1 := h.free.stored i (.int .i64 (F.getD j 0))
  have h2 := h1.1.stored j (.int .i64 (F.getD i 0))
  obtain ⟨h3, h4⟩ := h.swapped (i := i) (j := j) (by rw [nmv_set, nmv_set] at h2; exact h2.1) (h1.2.trans h2.2)
  exact ⟨rfl, h3.drawn q, h4.trans (KeepsT.more (More.drewN _ q) h3.sz)⟩
end

set_option maxHeartbeats 2000000 in
set_option maxRecDepth 1000000 in
theorem hp_up (w : World) (base b N g cap : Nat) (size most : Int) (vo : Value) (tk : Nat → Bool) (tx : Nat → List UInt8) (vb : Nat → Value) (F : List Nat) (n j : Nat) (hn : F.length = n) (hl : n ≤ 2000000)
    (h : Sto w base b size most N vo (.slice (some ⟨g, 0, none⟩) n cap) tk tx vb F) (hU : HpUp F n j) :
    Calls Try.prog 30 #[.iface 64 (.pointer (some ⟨b, 3, none⟩)), .int .i64 j] w fun e w' => e = .returned (.tuple #[]) ∧ ∃ G, Sto w' base b size most N vo (.slice (some ⟨g, 0, none⟩) n cap) tk tx vb G ∧ G.Perm F ∧ Hp G n ∧ KeepsT BT base w w' := by
  have H0 := Hid.mk (And.intro h hU)
  clear h hU
  go_enter Try.func30, Try.ntmps30
  go_wp2
  go_loopw [1] (fun jv wr => ∃ (k : Nat) (G : List Nat), k < n ∧ jv = .int .i64 k ∧ Hid (Sto wr base b size most N vo (.slice (some ⟨g, 0, none⟩) n cap) tk tx vb G ∧ G.Perm F ∧ HpUp G n k ∧ KeepsT BT base w wr)) (fun jv _ => (intOf jv).toNat)
  case atStart => exact ⟨j, F, H0.out.2.lt, rfl, Hid.mk ⟨H0.out.1, List.Perm.refl _, H0.out.2, KeepsT.refl _ _ _⟩⟩
  case round =>
    obtain ⟨k, G, hk, rfl, HR⟩ := hrel
    have hGn : G.length = n := HR.out.2.1.length_eq.trans hn
    rcases Nat.eq_zero_or_pos k with rfl | hk0
    · go_wp2
      go_end0
      exact ⟨rfl, G, HR.out.1, HR.out.2.1, HR.out.2.2.1.done (.inl rfl), HR.out.2.2.2⟩
    · obtain ⟨p, rfl⟩ : ∃ p, k = p + 1 := ⟨k - 1, by omega⟩
      have hq : Int.tdiv (p : Int) 2 = ((p / 2 : Nat) : Int) := by rw [Int.tdiv_eq_ediv_of_nonneg (by omega)]; omega
      have hne : ((p / 2 : Nat) : Int) ≠ (p : Int) + 1 := by omega
      have hls := less_is HR.out.1.cell3.1
      have hle := st_less (by rw [hGn]; exact HR.out.1) (i := p + 1) (j := p / 2) (by omega) (by omega)
      rw [hGn] at hle
      have hss := fun q => swap_is (HR.out.1.drawn q).cell3.1
      have hsw := fun q => st_swap (by rw [hGn]; exact HR.out.1.drawn q) (i := p / 2) (j := p + 1) (by omega) (by omega)
      rw [hGn] at hsw
      have HG := Hid.mk (And.intro hGn hq)
      clear hGn
      by_cases hlt : G.getD (p + 1) 0 < G.getD (p / 2) 0
      · rw [decide_eq_true hlt] at hle
        have HL := Hid.mk hlt
        clear hlt
        go_wp2_with (first
          | (go_at_call 49; refine hle.mono ?_; rintro e w1 ⟨rfl, q, rfl⟩)
          | (go_at_call 50; refine (hsw q).mono ?_; rintro e w1 ⟨rfl, hS1, hK1⟩; have H1 := Hid.mk (And.intro hS1 hK1); clear hS1 hK1))
        refine ⟨⟨p / 2, sw G (p / 2) (p + 1), by omega, by go_num, Hid.mk ⟨H1.out.1, (sw_perm G (by rw [HG.out.1]; omega) (by rw [HG.out.1]; omega)).trans HR.out.2.1, ?_, HR.out.2.2.2.trans ((KeepsT.more (More.drewN wr q) HR.out.1.sz).trans H1.out.2)⟩⟩, by simp [intOf]; omega⟩
        have := HR.out.2.2.1.next (by omega) (by rw [Nat.add_sub_cancel]; exact HL.out)
        rw [Nat.add_sub_cancel] at this
        exact this
      · rw [decide_eq_false hlt] at hle
        have HL := Hid.mk hlt
        clear hlt
        go_wp2_with (first
          | (go_at_call 49; refine hle.mono ?_; rintro e w1 ⟨rfl, q, rfl⟩))
        go_end0
        exact ⟨rfl, G, HR.out.1.drawn q, HR.out.2.1, HR.out.2.2.1.done (.inr (by rw [Nat.add_sub_cancel]; exact HL.out)), HR.out.2.2.2.trans (KeepsT.more (More.drewN wr q) HR.out.1.sz)⟩
end Go.Proofs.Ytpmgojnlbmiaeaa
