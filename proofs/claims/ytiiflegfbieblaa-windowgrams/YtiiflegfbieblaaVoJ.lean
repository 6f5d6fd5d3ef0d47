/-
  vocab: IDs, Line; cmp.Or.
-/
import Derived.Test.YtiiflegfbieblaaVoH
import Derived.Test.YtiiflegfbieblaaVoF
namespace Go.Proofs.Ytiiflegfbieblaa
open Go.RowKit

theorem NRow.at {w : World} {B g n cap r : Nat} {f : Nat → Nat} (h : NRow w B (.slice (some ⟨g, 0, none⟩) n cap) n f) (hr : r < n) : w.cell? ⟨g, r, none⟩ = some (.int .i64 (f r)) := by
  unfold NRow at h
  rw [h.cellAt r (by omega), nums_get f hr]
theorem NRow.soft {w : World} {B g n cap : Nat} {f : Nat → Nat} (h : NRow w B (.slice (some ⟨g, 0, none⟩) n cap) n f) (r : Nat) : w.frozen? ⟨g, r, none⟩ = false := World.ownsRow.frozenAt h r

set_option maxRecDepth 1000000 in
set_option maxHeartbeats 4000000 in
theorem vo_ids (p : Option Addr) (u : Value) (ts ws : List (List UInt8)) (w : World) (hb : ARd w u ws) (hm : ws.length ≤ 1000000) (hx : ∀ x ∈ ws, x.length ≤ 281474976710656)
    (hid : ∀ (W : World), More w W → ∀ s : List UInt8, s.length ≤ 281474976710656 → Calls Try.prog 57 #[.pointer p, .string (bs s)] W fun e w' => e = .returned (.int .i64 (idI ts s)) ∧ More W w') :
    Calls Try.prog 35 #[.pointer p, u] w fun e w' => ∃ r, e = .returned r ∧ NRow w' w.heap.size r ws.length (fun j => idN ts (ws.getD j [])) ∧ More w w' := by
  obtain ⟨i0, hi, hz0, hz1, hz2⟩ := info_parts Try.infoInt
  obtain ⟨f0, hf0⟩ : ∃ f0 : Nat → Nat, (fun j => idN ts (ws.getD j [])) = f0 := ⟨_, rfl⟩
  have HF := Hid.mk (fun j => (show f0 j = idN ts (ws.getD j []) by rw [← hf0]))
  rw [hf0]
  have HA := Hid.mk (And.intro hb (And.intro hid (fun j (h : j < ws.length) => hx _ (getD_mem h))))
  obtain ⟨bo, cb, rfl⟩ := hb.shape
  obtain ⟨n, hnn⟩ : ∃ n, ws.length = n := ⟨_, rfl⟩
  have HE := Hid.mk hnn
  rw [hnn] at HA hm ⊢
  obtain ⟨M, hM⟩ : ∃ M, M = madeCells (Value.int .i64 0).cells (((n : Nat) : Int).toNat * i0.size) := ⟨_, rfl⟩
  have hMl : M.toList = nums (fun _ => 0) n := by rw [hM, hz1, Int.toNat_natCast]; exact none_nums n
  have hMs : M.size = n := by rw [← Array.length_toList, hMl, nums_len]
  have hmk : ∀ W : World, (Instr.makeSlice 30 (.int .i64 (n : Int)) (.int .i64 (n : Int))).run Try.prog W = .ok (.slice (some ⟨W.heap.size, 0, none⟩) n n) (W.alloc (.cells M 3)) := fun W => by
    have h := run_make (P := Try.prog) W 30 3 i0 (.int .i64 0) Try.underlying30 hi hz0 .i64 .i64 (n : Int) (n : Int) (by omega) (by omega) (by rw [hz2]; omega) (by omega)
    rw [← hM] at h
    simpa using h
  have hrow : NRow (w.alloc (.cells M 3)) w.heap.size (.slice (some ⟨w.heap.size, 0, none⟩) n n) n (fun _ => 0) := by
    unfold NRow
    rw [← hMl]
    exact World.ownsRow_lit w M n (Nat.le_refl _) (by unfold maxLen; omega) (by omega)
  have HR := Hid.mk hrow
  clear hb hid hx hf0 hrow hM hMl hMs hnn
  go_enter Try.func35, Try.ntmps35
  go_wp2
  clear hmk
  go_loopw [13] (fun k wr => ∃ (r : Nat) (f : Nat → Nat), r ≤ n ∧ k = .int .i64 r ∧ NRow wr w.heap.size (.slice (some ⟨w.heap.size, 0, none⟩) n n) n f ∧ (∀ j, j < r → f j = f0 j) ∧ More w wr) (fun k _ => n - (intOf k).toNat)
  case atStart => exact ⟨0, _, by omega, rfl, HR.out, (fun j h => by omega), more_alloc _ _⟩
  case round =>
    obtain ⟨r, f, hr, rfl, hN, hf, hM⟩ := hrel
    by_cases hlt : r < n
    · obtain ⟨g, o, rfl, cB⟩ : ∃ g o, bo = some ⟨g, o, none⟩ ∧ wr.cell? ⟨g, o + r, none⟩ = some (.string (bs (ws.getD r []))) := by
        rcases HA.out.1 with ⟨h, _⟩ | ⟨g, o, cap, h1, h2⟩
        · have h3 := HE.out; rw [h] at h3; simp at h3; omega
        · have h3 := h2 r (by rw [HE.out]; exact hlt)
          exact ⟨g, o, (Value.slice.inj h1).1, (hM.cell (World.block_lt_of_cell? _ _ h3)).trans h3⟩
      have hxl := HA.out.2.2 r hlt
      have hc := HA.out.2.1 wr hM (ws.getD r []) hxl
      rw [idN_of, ← HF.out r] at hc
      generalize ws.getD r [] = x at cB hc hxl
      obtain ⟨X, hX⟩ : ∃ X, f0 r = X := ⟨_, rfl⟩
      rw [hX] at hc
      have HM := Hid.mk (And.intro hN (And.intro hf (And.intro hM hX)))
      clear hN hf hM hX
      go_wp2_with (go_at_call 57; refine hc.mono ?_; rintro e w2 ⟨rfl, hm2⟩; have hN2 := HM.out.1.more hm2; have cS := hN2.at hlt; have fS := hN2.soft r; have H2 := Hid.mk (And.intro hm2 hN2); clear hm2 hN2 hc)
      go_roundw
      case rel =>
        have hst := H2.out.2.stored r (.int .i64 X)
        exact ⟨r + 1, setF f r X, by omega, by go_num, by unfold NRow; rw [← nums_set]; exact hst.1, fun j hj => by
          by_cases hjr : j = r
          · subst hjr; rw [setF_same]; exact HM.out.2.2.2.symm
          · rw [setF_other f _ hjr]; exact HM.out.2.1 j (by omega), (More.trans HM.out.2.2.1 H2.out.1).setCell (p := ⟨w.heap.size, r, none⟩) (Nat.le_refl _) _⟩
      case measure => simp [intOf]; omega
    · obtain rfl : r = n := by omega
      have hN2 : NRow wr w.heap.size (.slice (some ⟨w.heap.size, 0, none⟩) r r) r f0 := by
        unfold NRow at hN ⊢
        rw [show nums f0 r = nums f r by unfold nums; exact List.map_congr_left fun j hj => by rw [hf j (List.mem_range.1 hj)]]
        exact hN
      have HM := Hid.mk (And.intro hN2 hM)
      clear hN hN2 hf hM
      go_wp2
      go_ret
      exact ⟨_, rfl, HM.out.1, HM.out.2⟩
end Go.Proofs.Ytiiflegfbieblaa
