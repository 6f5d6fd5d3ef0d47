/-
  block: container/heap's Push and Pop.
-/
import Derived.Test.YtpmgojnlbmiaeaaBlkC
namespace Go.Proofs.Ytpmgojnlbmiaeaa
open Go.RowKit

theorem own_cut {w : World} {base g cap m : Nat} {F : List Nat} (h : w.ownsRow base 3 1 (.slice (some ⟨g, 0, none⟩) F.length cap) F.length (nmv F)) (hm : m ≤ F.length) : w.ownsRow base 3 1 (.slice (some ⟨g, 0, none⟩) (F.take m).length cap) (F.take m).length (nmv (F.take m)) := by
  have hl : (F.take m).length = m := by rw [List.length_take]; omega
  rw [hl]
  rcases h.2 with ⟨h', _⟩ | ⟨g', cap', cur, h', h1, h2, h3, h4, h5, h6⟩
  · simp at h'
  · simp only [Value.slice.injEq, Option.some.injEq, Addr.mk.injEq, and_true, true_and] at h'
    obtain ⟨rfl, rfl⟩ := h'
    refine ⟨by rw [nmv_len, hl]; omega, .inr ⟨g, cap, cur, rfl, h1, h2, by omega, h4, h5, ?_⟩⟩
    rw [← nmv_take, ← h6, List.take_take]
    congr 1
    omega
theorem grown_refl (w : World) (r : Option Nat) : w.grownBy w r := ⟨rfl, rfl, rfl, Nat.le_refl _, fun _ _ _ => rfl⟩

set_option maxHeartbeats 2000000 in
set_option maxRecDepth 1000000 in
theorem hp_Push (w : World) (base b N : Nat) (size most : Int) (vo vf : Value) (tk : Nat → Bool) (tx : Nat → List UInt8) (vb : Nat → Value) (F : List Nat) (x : Nat) (hl : F.length ≤ 1900000)
    (h : Sto w base b size most N vo vf tk tx vb F) (hF : Hp F F.length) :
    Calls Try.prog 28 #[.iface 64 (.pointer (some ⟨b, 3, none⟩)), .iface 3 (.int .i64 x)] w fun e w' => e = .returned (.tuple #[]) ∧ ∃ vf' G, Sto w' base b size most N vo vf' tk tx vb G ∧ G.Perm (F ++ [x]) ∧ Hp G G.length ∧ KeepsT BT base w w' := by
  have hps := nm_Push base b F.length x vf (nmv F) w h.sz (lt_of_block h.box) (by omega) h.free h.cell3.1 h.cell3.2 (own_off h.free h.box (by decide))
  have hpi := push_is w b
  have hlx : (F ++ [x]).length = F.length + 1 := by simp
  obtain ⟨n, hn⟩ : ∃ n, F.length = n := ⟨_, rfl⟩
  have H0 := Hid.mk (And.intro h (And.intro hF (And.intro hn hlx)))
  rw [hn] at hps hl
  clear h hF hn hlx
  go_enter Try.func28, Try.ntmps28
  go_wp2_with (first
    | (go_at_call 52; refine hps.mono ?_; clear hps; rintro e w1 ⟨rfl, v', w2, hw1, hg, hr⟩; obtain ⟨hS1, hK1⟩ := H0.out.1.freed (vf' := v') (G := F ++ [x]) hg (by rw [H0.out.2.2.2, H0.out.2.2.1, ← nmv_snoc]; exact hr); rw [← hw1] at hS1 hK1; obtain ⟨g, cap, cur, rfl, _⟩ := shape_some hr (by omega); have hli := len_is hS1.cell3.1; have hup := hp_up w1 base b N g cap size most vo tk tx vb (F ++ [x]) (n + 1) n (by rw [H0.out.2.2.2, H0.out.2.2.1]) (by omega) hS1 (by have := H0.out.2.1.push x; rw [H0.out.2.2.1] at this; exact this); have H1 := Hid.mk (And.intro hS1 hK1); clear hS1 hK1 hw1 hg hr)
    | (go_at_call 48; refine (nm_Len _ _ _ _).mono ?_; rintro e w' ⟨rfl, hw'⟩; subst w')
    | (go_at_call 30; refine hup.mono ?_; clear hup; rintro e w3 ⟨rfl, G, hS3, hP3, hG3, hK3⟩; have H3 := Hid.mk (And.intro hS3 (And.intro hP3 (And.intro hG3 (H1.out.2.trans hK3)))); clear hS3 hP3 hG3 hK3))
  go_end0
  refine ⟨rfl, _, G, H3.out.1, H3.out.2.1, ?_, H3.out.2.2.2⟩
  have := H3.out.2.1.length_eq
  rw [this, H0.out.2.2.2, H0.out.2.2.1]
  exact H3.out.2.2.1

theorem pop_facts {w : World} {base b N g cap m : Nat} {size most : Int} {vo : Value} {tk : Nat → Bool} {tx : Nat → List UInt8} {vb : Nat → Value} {G : List Nat} (h : Sto w base b size most N vo (.slice (some ⟨g, 0, none⟩) (m + 1) cap) tk tx vb G) (hm : G.length = m + 1) :
    m + 1 ≤ cap ∧ (∀ v, (w.setCell ⟨b, 3, none⟩ v).cell? ⟨g, m, none⟩ = some (.int .i64 (G.getD m 0))) ∧ w.ownsRow base 3 1 (.slice (some ⟨g, 0, none⟩) G.length cap) G.length (nmv G) := by
  have hf := h.free
  rw [hm] at hf
  obtain ⟨cur, hgc, _, hcap, _⟩ := own_at hf
  refine ⟨hcap, fun v => ?_, by rw [hm]; exact hf⟩
  rw [World.cell?_of_block (a := ⟨g, m, none⟩) ((grown_set w b 3 v).block g (lt_of_block hgc) (fun e => by cases e; rw [h.box] at hgc; simp at hgc))]
  exact (Sto.num (by rw [hm]; exact h) (i := m) (by omega)).1

set_option maxHeartbeats 2000000 in
set_option maxRecDepth 1000000 in
theorem hp_Pop (w : World) (base b N g cap : Nat) (size most : Int) (vo : Value) (tk : Nat → Bool) (tx : Nat → List UInt8) (vb : Nat → Value) (F : List Nat) (m : Nat) (hm : F.length = m + 1) (hl : m ≤ 1900000)
    (h : Sto w base b size most N vo (.slice (some ⟨g, 0, none⟩) (m + 1) cap) tk tx vb F) (hF : Hp F F.length) :
    Calls Try.prog 29 #[.iface 64 (.pointer (some ⟨b, 3, none⟩))] w fun e w' => e = .returned (.iface 3 (.int .i64 (F.getD 0 0))) ∧ ∃ G, Sto w' base b size most N vo (.slice (some ⟨g, 0, none⟩) G.length cap) tk tx vb G ∧ (G ++ [F.getD 0 0]).Perm F ∧ Hp G G.length ∧ KeepsT BT base w w' := by
  have hli := len_is h.cell3.1
  have hsi := swap_is h.cell3.1
  have hsw := st_swap (g := g) (cap := cap) (F := F) (by rw [hm]; exact h) (i := 0) (j := m) (by omega) (by omega)
  rw [hm] at hsw hF
  obtain ⟨hT1, hT2⟩ := hF.top hm
  have H0 := Hid.mk (And.intro hT1 (And.intro hT2 (And.intro hm (And.intro h hF))))
  clear hT1 hT2 hm h hF
  obtain ⟨x, hx⟩ : ∃ x, F.getD 0 0 = x := ⟨_, rfl⟩
  have HX := Hid.mk hx
  rw [hx]
  clear hx
  go_enter Try.func29, Try.ntmps29
  go_wp2_with (first
    | (go_at_call 48; refine (nm_Len _ _ _ _).mono ?_; rintro e w' ⟨rfl, hw'⟩; subst w')
    | (go_at_call 50; refine hsw.mono ?_; clear hsw; rintro e w1 ⟨rfl, hS1, hK1⟩; have hdn := hp_down w1 base b N g cap size most vo tk tx vb (sw F 0 m) (m + 1) m (by rw [sw_len]; exact H0.out.2.2.1) (by omega) (by omega) hS1 H0.out.1; have H1 := Hid.mk hK1; clear hS1 hK1)
    | (go_at_call 31; refine hdn.mono ?_; clear hdn; rintro e w2 ⟨⟨r, rfl⟩, G, hS2, hP2, hG2, hO2, hK2⟩; have hlG : G.length = m + 1 := hP2.length_eq.trans ((sw_len F 0 m).trans H0.out.2.2.1); have hpi := pop_is w2 b; have hxm : G.getD m 0 = x := (hO2 m (Nat.le_refl _)).trans (H0.out.2.1.trans HX.out); obtain ⟨hcap, hcx, hfr⟩ := pop_facts hS2 hlG; rw [hxm] at hcx; have hpp := nm_Pop b g m cap x w2 (by omega) hcap hS2.cell3.1 hS2.cell3.2 (hcx _); have H2 := Hid.mk (And.intro hS2 (And.intro hP2 (And.intro hG2 (And.intro hlG (And.intro hxm (And.intro hfr (H1.out.trans hK2))))))); clear hS2 hP2 hG2 hO2 hK2 hlG hxm hcap hcx hfr)
    | (go_at_call 51; refine hpp.mono ?_; clear hpp; rintro e w3 ⟨rfl, hw3⟩))
  go_ret
  have hS2 := H2.out.1
  have hlG := H2.out.2.2.2.1
  have hcut := own_cut (m := m) H2.out.2.2.2.2.2.1 (by omega)
  have hl2 : (G.take m).length = m := by rw [List.length_take]; omega
  obtain ⟨hS4, hK4⟩ := hS2.freed (grown_refl _ _) hcut
  refine ⟨rfl, G.take m, ?_, ?_, H2.out.2.2.1.take (by omega), ?_⟩
  · rw [hl2] at hS4 ⊢; exact hS4
  · have := take_last hlG
    rw [H2.out.2.2.2.2.1] at this
    rw [this]
    exact H2.out.2.1.trans (sw_perm F (by rw [H0.out.2.2.1]; omega) (by rw [H0.out.2.2.1]; omega))
  · rw [hl2] at hK4; exact H2.out.2.2.2.2.2.2.trans hK4
end Go.Proofs.Ytpmgojnlbmiaeaa
