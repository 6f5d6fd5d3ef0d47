/-
  block: a block's erase, write, text.
-/
import Derived.Test.YtpmgojnlbmiaeaaBlkD
import Derived.Lib.SliceRun
import Derived.Lib.BufferWrite
namespace Go.Proofs.Ytpmgojnlbmiaeaa
open Go.RowKit

theorem own_sets {base q m c : Nat} : ∀ (vs : List Value) (o : Nat) (w : World) (xs : List Value), w.ownsRow base 5 1 (.slice (some ⟨q, 0, none⟩) m c) m xs → (∃ xs', (w.setCells q o vs).ownsRow base 5 1 (.slice (some ⟨q, 0, none⟩) m c) m xs') ∧ w.grownBy (w.setCells q o vs) (some q)
  | [], _, w, xs, h => ⟨⟨xs, h⟩, grown_refl _ _⟩
  | v :: r, o, w, xs, h => by
    obtain ⟨h1, h2⟩ := h.stored o v
    obtain ⟨h3, h4⟩ := own_sets r (o + 1) _ _ h1
    exact ⟨h3, h2.trans h4⟩
/-- clear, of the first u of a row of bytes. -/
theorem clear_row {base q m c u : Nat} {w : World} {xs : List Value} (h : w.ownsRow base 5 1 (.slice (some ⟨q, 0, none⟩) m c) m xs) (hu : u ≤ m) :
    ∃ w2, (Builtin.clear_ #[57] 0 #[.slice (some ⟨q, 0, none⟩) u c]).run Try.prog w = .ok (.tuple #[]) w2 ∧ (∃ xs', w2.ownsRow base 5 1 (.slice (some ⟨q, 0, none⟩) m c) m xs') ∧ w.grownBy w2 (some q) := by
  rcases Nat.eq_zero_or_pos u with rfl | h0
  · exact ⟨w, by kernel_rfl, ⟨xs, h⟩, grown_refl _ _⟩
  · obtain ⟨h1, h2⟩ := own_sets (List.replicate u (Value.int .u8 0)) 0 w xs h
    refine ⟨_, Lib.run_clear_slice w 57 5 0 (.int .u8 0) Try.underlying57 (fun w => by kernel_rfl) rfl rfl q 0 u c h0 (fun j hj => ?_) (fun j _ => h.frozenAt _), h1, h2⟩
    have hl := h.1
    rw [Nat.zero_add, h.cellAt j (by omega), List.getElem?_eq_getElem (by omega)]
    rfl

section
variable {w : World} {base b N g cap : Nat} {size most : Int} {vf : Value} {tk : Nat → Bool} {tx : Nat → List UInt8} {vb : Nat → Value} {F : List Nat}
set_option maxHeartbeats 2000000 in
set_option maxRecDepth 1000000 in
theorem bk_erase (h : Sto w base b size most N (.slice (some ⟨g, 0, none⟩) N cap) vf tk tx vb F) {k : Nat} (hk : k < N) :
    Calls Try.prog 27 #[.pointer (some ⟨g, k * 3, none⟩)] w fun e w' => e = .returned (.tuple #[]) ∧ Sto w' base b size most N (.slice (some ⟨g, 0, none⟩) N cap) vf tk (upd tx k []) vb F ∧ KeepsT BT base w w' := by
  have mixed : Try.prog.follows Departure.mixedOrders = true := by kernel_rfl
  obtain ⟨_, c1, c2, ff⟩ := h.cell hk
  obtain ⟨m, xs, hm, hr, _⟩ := h.byt k hk
  obtain ⟨cur, hgc, _⟩ := own_at h.row
  have hD := h.drawn 1
  obtain ⟨u, hu⟩ : ∃ u, (tx k).length = u := ⟨_, rfl⟩
  rw [hu] at c2 hm
  rcases hr.2 with ⟨hv, rfl⟩ | ⟨q, cq, cu, hv, _, hq, hmc, hcl, _⟩
  · obtain rfl : u = 0 := by omega
    have hb := hD.bytes (w' := w.drewN 1) (t := []) hk (grown_refl _ _) (Nat.zero_le _) (More.own hr (More.drewN w 1)) rfl
    rw [hv] at c1
    have f2 := ff (k * 3 + 2)
    have hcr : ∀ w : World, (Builtin.clear_ #[57] 0 #[.slice none 0 0]).run Try.prog w = .ok (.tuple #[]) w := fun w => by kernel_rfl
    have HB := Hid.mk hb
    have HS := Hid.mk h.sz
    clear hb hD h hr hv hgc hu ff
    go_enter Try.func27, Try.ntmps27
    go_wp2
    go_region_law_o (refine step_clear_is rfl (.tmp 10) 57 rfl rfl (hcr _) ?_)
    all_goals (try go_wp2)
    all_goals go_end0
    all_goals exact ⟨rfl, HB.out.1, (KeepsT.more (More.drewN w 1) HS.out).trans HB.out.2⟩
  · have hrD : (w.drewN 1).ownsRow base 5 1 (.slice (some ⟨q, 0, none⟩) m cq) m xs := by rw [← hv]; exact More.own hr (More.drewN w 1)
    obtain ⟨w2, hcr, ⟨xs', hr2⟩, hg2⟩ := clear_row hrD hm
    have hb := hD.bytes (w' := w2) (t := []) hk (by rw [hv]; exact hg2) (Nat.zero_le _) (by rw [hv]; exact hr2) rfl
    rw [hv] at c1
    have hqg : g ≠ q := fun e => by rw [e, hq] at hgc; simp at hgc
    have hb2 : w2.heap[g]? = (w.drewN 1).heap[g]? := hg2.block g (lt_of_block hgc) (by simpa using hqg)
    have c2' : w2.cell? ⟨g, k * 3 + 2, none⟩ = some (.int .i64 (u : Int)) := (World.cell?_of_block (a := ⟨g, k * 3 + 2, none⟩) hb2).trans c2
    have f2 : w2.frozen? ⟨g, k * 3 + 2, none⟩ = false := (World.frozen?_of_block (a := ⟨g, k * 3 + 2, none⟩) hb2).trans (ff _)
    have hucq : u ≤ cq := Nat.le_trans hm hmc
    have HB := Hid.mk hb
    have HS := Hid.mk h.sz
    clear hb hD h hr hv hgc hu ff hrD hr2 hg2 hb2 hq
    go_enter Try.func27, Try.ntmps27
    go_wp2
    go_region_law_o (refine step_clear_is rfl (.tmp 10) 57 rfl rfl hcr ?_)
    all_goals (try go_wp2)
    all_goals go_end0
    all_goals exact ⟨rfl, HB.out.1, (KeepsT.more (More.drewN w 1) HS.out).trans HB.out.2⟩
end
end Go.Proofs.Ytpmgojnlbmiaeaa
