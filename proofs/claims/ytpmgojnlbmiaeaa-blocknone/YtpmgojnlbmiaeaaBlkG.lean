/-
  block: a block's write.
-/
import Derived.Test.YtpmgojnlbmiaeaaBlkF
import Derived.OwnWalk
namespace Go.Proofs.Ytpmgojnlbmiaeaa
open Go.RowKit

section
variable {w : World} {base b N g cap : Nat} {size most : Int} {vf : Value} {tk : Nat → Bool} {tx : Nat → List UInt8} {vb : Nat → Value} {F : List Nat}
theorem copy_st (h : Sto w base b size most N (.slice (some ⟨g, 0, none⟩) N cap) vf tk tx vb F) {k : Nat} (hk : k < N) {ao : Option Addr} {m c : Nat} (hv : vb k = .slice ao m c) {t : List UInt8} (ht : t.length ≤ m) :
    ∃ w2, (Builtin.copy_ #[57, 9] 3 #[.slice ao m c, .string (bs t)]).run Try.prog w = .ok (.int .i64 t.length) w2 ∧ Sto (w2.setCell ⟨g, k * 3 + 2, none⟩ (.int .i64 t.length)) base b size most N (.slice (some ⟨g, 0, none⟩) N cap) vf tk (upd tx k t) vb F ∧ KeepsT BT base w (w2.setCell ⟨g, k * 3 + 2, none⟩ (.int .i64 t.length)) ∧
      w2.cell? ⟨g, k * 3 + 2, none⟩ = some (.int .i64 (tx k).length) ∧ w2.frozen? ⟨g, k * 3 + 2, none⟩ = false := by
  obtain ⟨_, _, c2, ff⟩ := h.cell hk
  obtain ⟨m', xs, _, hr, _⟩ := h.byt k hk
  obtain ⟨cur, hgc, _⟩ := own_at h.row
  rw [hv] at hr
  obtain ⟨_, _, he⟩ := shape_any hr
  obtain rfl : m = m' := by simp only [Value.slice.injEq] at he; exact he.2.1
  rcases hr.2 with ⟨hs, rfl⟩ | ⟨q, cq, cu, hs, _, hq, hmc, hcl, _⟩
  · simp only [Value.slice.injEq, true_and] at hs
    obtain ⟨rfl, rfl⟩ := hs
    obtain rfl : t = [] := List.eq_nil_of_length_eq_zero (by omega)
    obtain ⟨h1, h2⟩ := h.bytes (t := []) hk (grown_refl _ _) (Nat.zero_le _) (by rw [hv]; exact hr) rfl
    exact ⟨w, by kernel_rfl, h1, h2, c2, ff _⟩
  · simp only [Value.slice.injEq, true_and] at hs
    obtain ⟨rfl, rfl⟩ := hs
    obtain ⟨w2, hrun, ⟨xs', hr2, hx2⟩, hg2⟩ := copy_row hr ht
    obtain ⟨h1, h2⟩ := h.bytes (w' := w2) (t := t) hk (by rw [hv]; exact hg2) ht (by rw [hv]; exact hr2) hx2
    have hqg : g ≠ q := fun e => by rw [e, hq] at hgc; simp at hgc
    have hb2 : w2.heap[g]? = w.heap[g]? := hg2.block g (lt_of_block hgc) (by simpa using hqg)
    exact ⟨w2, hrun, h1, h2, (World.cell?_of_block (a := ⟨g, k * 3 + 2, none⟩) hb2).trans c2, (World.frozen?_of_block (a := ⟨g, k * 3 + 2, none⟩) hb2).trans (ff _)⟩
/-- New bytes for a block whose text is empty. -/
theorem Sto.remade {w2 : World} {L : Nat} {xs : List Value} (h : Sto w base b size most N (.slice (some ⟨g, 0, none⟩) N cap) vf tk tx vb F) {k : Nat} (hk : k < N) (ht : tx k = []) (hm : More w w2) (hr : w2.ownsRow base 5 1 (.slice (some ⟨w.heap.size, 0, none⟩) L L) L xs) :
    Sto (w2.setCell ⟨g, k * 3 + 1, none⟩ (.slice (some ⟨w.heap.size, 0, none⟩) L L)) base b size most N (.slice (some ⟨g, 0, none⟩) N cap) vf tk tx (upd vb k (.slice (some ⟨w.heap.size, 0, none⟩) L L)) F ∧ KeepsT BT base w (w2.setCell ⟨g, k * 3 + 1, none⟩ (.slice (some ⟨w.heap.size, 0, none⟩) L L)) := by
  obtain ⟨h1, h2⟩ := (h.more hm).setVb hk ht hr fun j hj q hq hq2 => by
    obtain ⟨_, _, _, hrj, _⟩ := h.byt j hj
    have := (hrj.lt q hq2).2
    simp only [Value.ownBlock, Option.some.injEq] at hq
    omega
  exact ⟨h1, (KeepsT.more hm h.sz).trans h2⟩
set_option maxHeartbeats 2000000 in
set_option maxRecDepth 1000000 in
theorem bk_write (h : Sto w base b size most N (.slice (some ⟨g, 0, none⟩) N cap) vf tk tx vb F) {k : Nat} (hk : k < N) (t : List UInt8) (htl : t.length ≤ 65536) :
    Calls Try.prog 26 #[.pointer (some ⟨g, k * 3, none⟩), .string (bs t)] w fun e w' => e = .returned (.tuple #[]) ∧ ∃ vb', Sto w' base b size most N (.slice (some ⟨g, 0, none⟩) N cap) vf tk (upd tx k t) vb' F ∧ KeepsT BT base w w' := by
  obtain ⟨i0, hi, hz0, hz1, hz2⟩ := info_parts Try.infoU8
  have her := bk_erase h hk
  obtain ⟨m, xs, _, hr, _⟩ := h.byt k hk
  obtain ⟨ao, c, hv⟩ := shape_any hr
  have hsz : (bs t).size = t.length := bs_size t
  obtain ⟨L, hL⟩ : ∃ L, t.length = L := ⟨_, rfl⟩
  have hml : m ≤ 9223372036854775807 := by
    rcases hr.2 with ⟨_, rfl⟩ | ⟨_, cq, _, _, _, _, h1, h2, _⟩
    · omega
    · unfold maxLen at h2; omega
  have HV := Hid.mk (And.intro hv (And.intro hL h.sz))
  rw [hL] at hsz htl
  clear hr hv hL
  by_cases hlt : m < L
  · go_enter Try.func26, Try.ntmps26
    go_wp2_with (first
      | (go_at_call 27; refine her.mono ?_; clear her; rintro e w1 ⟨rfl, hS1, hK1⟩; obtain ⟨_, c1, _, ff⟩ := hS1.cell hk; rw [HV.out.1] at c1; have f1 := ff (k * 3 + 1); have H1 := Hid.mk (And.intro hS1 hK1); clear hS1 hK1 ff)
      | (refine wpList_make_full _ rfl _ _ 57 rfl base 5 i0 (.int .u8 0) 1 Try.underlying57 hi hz0 hz1 .i64 .i64 L L L rfl rfl rfl rfl (by rw [hz2]; omega) (by unfold maxLen; omega) H1.out.1.sz ?_; intro w2 hown hg; have hm2 : More w1 w2 := ⟨hg.os, hg.tape, hg.output, hg.size, fun i hi => hg.block i hi (by simp)⟩; obtain ⟨hS3, hK3⟩ := H1.out.1.remade hk (upd_at _ _ _) hm2 hown; obtain ⟨_, c1, _, ff⟩ := (H1.out.1.more hm2).cell hk; have f1 := ff (k * 3 + 1); obtain ⟨_, c3, _, _⟩ := hS3.cell hk; rw [upd_at] at c3; obtain ⟨w4, hcr, hS4, hK4, c4, f4⟩ := copy_st hS3 hk (upd_at _ _ _) (t := t) (by rw [HV.out.2.1]; omega); rw [HV.out.2.1] at hcr hS4 hK4; rw [upd_at] at c4; rw [HV.out.1] at c1; have H4 := Hid.mk (And.intro hS4 (H1.out.2.trans (hK3.trans hK4))); clear hS3 hK3 hS4 hK4 hown hg hm2 ff)
      | (at_builtin; refine Lib.wpList_copy_run _ rfl (.tmp 24) (.tmp 25) 57 9 rfl _ _ rfl rfl hcr ?_; clear hcr))
    go_end0
    have hS := H4.out.1
    rw [upd_upd] at hS
    exact ⟨rfl, _, hS, H4.out.2⟩
  · go_enter Try.func26, Try.ntmps26
    go_wp2_with (first
      | (go_at_call 27; refine her.mono ?_; clear her; rintro e w1 ⟨rfl, hS1, hK1⟩; obtain ⟨_, c1, _, _⟩ := hS1.cell hk; obtain ⟨w4, hcr, hS4, hK4, c4, f4⟩ := copy_st hS1 hk HV.out.1 (t := t) (by rw [HV.out.2.1]; omega); rw [HV.out.2.1] at hcr hS4 hK4; rw [upd_at] at c4; rw [HV.out.1] at c1; have H4 := Hid.mk (And.intro hS4 (hK1.trans hK4)); clear hS1 hK1 hS4 hK4)
      | (at_builtin; refine Lib.wpList_copy_run _ rfl (.tmp 24) (.tmp 25) 57 9 rfl _ _ rfl rfl hcr ?_; clear hcr))
    go_end0
    have hS := H4.out.1
    rw [upd_upd] at hS
    exact ⟨rfl, _, hS, H4.out.2⟩
end
end Go.Proofs.Ytpmgojnlbmiaeaa
