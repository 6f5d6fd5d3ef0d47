/-
  vocab: New, Words.
-/
import Derived.Test.YtiiflegfbieblaaVoABC
import Derived.Test.YtiiflegfbieblaaTokW
namespace Go.Proofs.Ytiiflegfbieblaa
open Go.RowKit Go.Shelf
attribute [local go_sem] Oper.semAt_some vo_field

abbrev arr3 : Value := .agg #[.string { data := #[60, 117, 110, 107, 62] }, .string { data := #[60, 115, 62] }, .string { data := #[60, 47, 115, 62] }]
theorem vo_ix0 (w : World) : (Instr.index 74 arr3 (.int .i64 0)).run Try.prog w = .ok (.string { data := #[60, 117, 110, 107, 62] }) w := by kernel_rfl
theorem vo_ix1 (w : World) : (Instr.index 74 arr3 (.int .i64 1)).run Try.prog w = .ok (.string { data := #[60, 115, 62] }) w := by kernel_rfl
theorem vo_ix2 (w : World) : (Instr.index 74 arr3 (.int .i64 2)).run Try.prog w = .ok (.string { data := #[60, 47, 115, 62] }) w := by kernel_rfl
attribute [local go_sem] vo_ix0 vo_ix1 vo_ix2

set_option maxRecDepth 1000000 in
set_option maxHeartbeats 4000000 in
theorem vo_New (w : World) :
    Calls Try.prog 28 #[] w fun e w' => ∃ v D, e = .returned (.pointer (some ⟨v, 0, none⟩)) ∧ Voc w' D v mk3 ∧ More w w' ∧ (∀ j, D j → w.heap.size ≤ j) ∧ w.heap.size ≤ v := by
  go_enter Try.func28, Try.ntmps28
  go_wp2_with (go_at_call 46; refine (in_new _).mono ?_; rintro e w1 ⟨rfl, hm1, D1, hT1, hD1⟩; have H1 := Hid.mk (And.intro hm1 (And.intro hT1 hD1)); clear hm1 hT1 hD1)
  have hlt : w.heap.size < w1.heap.size := by
    obtain ⟨vk, vh, vd, f, h1, _⟩ := H1.out.2.1
    exact lt_of_block h1.box
  have hv0 : ¬ D1 w1.heap.size := fun h => by have := H1.out.2.1.wi _ h; omega
  have hm2 := More.trans H1.out.1 (more_alloc w1 (.cells #[.pointer (some ⟨w.heap.size, 0, none⟩)] 62))
  have hT2 := H1.out.2.1.more (more_alloc w1 (.cells #[.pointer (some ⟨w.heap.size, 0, none⟩)] 62))
  have hb2 := heap_alloc_new w1 (.cells #[.pointer (some ⟨w.heap.size, 0, none⟩)] 62)
  obtain ⟨w2, hw2⟩ : ∃ w2, w1.alloc (.cells #[.pointer (some ⟨w.heap.size, 0, none⟩)] 62) = w2 := ⟨_, rfl⟩
  rw [hw2] at hm2 hT2 hb2 ⊢
  obtain ⟨v, hv⟩ : ∃ v, w1.heap.size = v := ⟨_, rfl⟩
  rw [hv] at hb2 hv0 hlt ⊢
  have H2 := Hid.mk (And.intro hm2 (And.intro hT2 (And.intro hb2 (And.intro hv0 H1.out.2.2))))
  clear hm2 hT2 hb2 hv0 hw2 hv H1
  go_loopw [9] (fun k wr => ∃ (r : Nat) (D : Nat → Prop), r ≤ 3 ∧ k = .int .i64 r ∧ Tab wr D w.heap.size (mk3.take r) ∧ ¬ D v ∧ wr.heap[v]? = some (.cells #[.pointer (some ⟨w.heap.size, 0, none⟩)] 62 (0, 0)) ∧ More w wr ∧ ∀ j, D j → w.heap.size ≤ j) (fun k _ => 3 - (intOf k).toNat)
  case atStart => exact ⟨0, D1, by omega, rfl, H2.out.2.1, H2.out.2.2.2.1, H2.out.2.2.1, H2.out.1, H2.out.2.2.2.2⟩
  case round =>
    obtain ⟨r, D, hr, rfl, hT, hnv, hb, hM, hD⟩ := hrel
    have cv := (wcells1 hb).1
    have HH := Hid.mk (And.intro hnv (And.intro hb (And.intro hM hD)))
    have hput := fun s hs => callsIn_wide.1 (in_Put 16 (Nat.le_refl _) wr D w.heap.size (mk3.take r) s hT (by have := List.length_take_le r mk3; simp [mk3] at this ⊢; omega) hs)
    have HT := Hid.mk hT
    clear hT hnv hb hM hD H2
    have hstep : ∀ (D' : Nat → Prop) (w3 : World) (ts : List (List UInt8)), Tab w3 D' w.heap.size ts → Off D wr w3 → (∀ j, D' j → D j ∨ wr.heap.size ≤ j) → Tab w3 D' w.heap.size ts ∧ ¬ D' v ∧ w3.heap[v]? = some (.cells #[.pointer (some ⟨w.heap.size, 0, none⟩)] 62 (0, 0)) ∧ More w w3 ∧ ∀ j, D' j → w.heap.size ≤ j := fun D' w3 ts h3 hO hD' =>
      ⟨h3, fun h => (hD' v h).elim HH.out.1 (fun h => by have := lt_of_block HH.out.2.1; omega), (hO.block v (lt_of_block HH.out.2.1) HH.out.1).trans HH.out.2.1, More.trans' HH.out.2.2.1 hO HH.out.2.2.2, fun j hj => (hD' j hj).elim (HH.out.2.2.2 j) (Nat.le_trans HH.out.2.2.1.size)⟩
    have HS := Hid.mk hstep
    clear hstep
    rcases (show r = 0 ∨ r = 1 ∨ r = 2 ∨ r = 3 by omega) with rfl | rfl | rfl | rfl
    · have h1 := hput unkW (by decide)
      rw [show putN (mk3.take 0) unkW = mk3.take 1 by decide] at h1
      clear hput
      go_wp2_with (go_at_call 33; refine h1.mono ?_; rintro e w3 ⟨rfl, D', hT3, hO3, hD3⟩; have H3 := Hid.mk (HS.out D' w3 _ hT3 hO3 hD3); clear hT3 hO3 hD3 h1)
      go_roundw
      case rel => exact ⟨1, D', by omega, rfl, H3.out⟩
      case measure => simp [intOf]
    · have h1 := hput mkB (by decide)
      rw [show putN (mk3.take 1) mkB = mk3.take 2 by decide] at h1
      clear hput
      go_wp2_with (go_at_call 33; refine h1.mono ?_; rintro e w3 ⟨rfl, D', hT3, hO3, hD3⟩; have H3 := Hid.mk (HS.out D' w3 _ hT3 hO3 hD3); clear hT3 hO3 hD3 h1)
      go_roundw
      case rel => exact ⟨2, D', by omega, rfl, H3.out⟩
      case measure => simp [intOf]
    · have h1 := hput mkE (by decide)
      rw [show putN (mk3.take 2) mkE = mk3.take 3 by decide] at h1
      clear hput
      go_wp2_with (go_at_call 33; refine h1.mono ?_; rintro e w3 ⟨rfl, D', hT3, hO3, hD3⟩; have H3 := Hid.mk (HS.out D' w3 _ hT3 hO3 hD3); clear hT3 hO3 hD3 h1)
      go_roundw
      case rel => exact ⟨3, D', by omega, rfl, H3.out⟩
      case measure => simp [intOf]
    · clear hput
      go_wp2
      go_ret
      exact ⟨v, D, rfl, ⟨HH.out.1, _, HH.out.2.1, HT.out⟩, HH.out.2.2.1, HH.out.2.2.2, by omega⟩
end Go.Proofs.Ytiiflegfbieblaa
