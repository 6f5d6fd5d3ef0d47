/-
  stream's Writer: step, lay, Fixed, Unary, Gamma, Rice, Row.
-/
import Derived.Test.YtgcjbkcfcklcfaaDoorStreamMath
import Derived.StillTailTactics
import Derived.Deep.RegionWith
namespace Go.Proofs.YtgcjbkcfcklcfaaDoor
open Go.RowKit

/-- From w to w' nothing below 'base' has turned, and no block but rows and words of theirs. -/
structure KeepsR (base : Nat) (w w' : World) : Prop where
  below : Below base w w'
  other : ∀ (k : Nat) (cs : Array Value) (t : TypeId) (z : Nat × Nat), t ≠ 68 → t ≠ 32 → w.heap[k]? = some (Obj.cells cs t z) → w'.heap[k]? = some (Obj.cells cs t z)
theorem KeepsR.refl (base : Nat) (w : World) : KeepsR base w w := ⟨Below.refl _ _, fun _ _ _ _ _ _ h => h⟩
theorem KeepsR.trans {base : Nat} {a b c : World} (h : KeepsR base a b) (k : KeepsR base b c) : KeepsR base a c := ⟨h.below.trans k.below, fun _ _ _ _ h1 h2 x => k.other _ _ _ _ h1 h2 (h.other _ _ _ _ h1 h2 x)⟩
theorem KeepsR.keeps {base : Nat} {w w' : World} (h : KeepsR base w w') : Keeps base w w' := ⟨h.below, fun _ _ _ x => h.other _ _ _ _ (by decide) (by decide) x⟩
theorem KeepsR.more {base : Nat} {w w' : World} (h : More w w') (hb : base ≤ w.heap.size) : KeepsR base w w' := ⟨h.mono hb, fun _ _ _ _ _ _ x => by rw [h.block _ (lt_of_block x)]; exact x⟩
theorem KeepsR.of {base b V n : Nat} {w w' : World} (h : RowAt w base b V n) (k : KeepsO base (RowBlk w b) w w') : KeepsR base w w' := by
  refine ⟨k.below, fun j cs t z h1 h2 x => ?_⟩
  rw [k.only j (lt_of_block x) ?_]
  · exact x
  · rintro (rfl | ⟨v, y, hb, hv⟩)
    · obtain ⟨v, hb, _⟩ := h.mem
      rw [x] at hb
      simp at hb
      exact h1 hb.2.1
    · obtain ⟨v2, hb2, hown⟩ := h.mem
      rw [hb] at hb2
      simp at hb2
      obtain ⟨rfl, _⟩ := hb2
      rcases hown.2 with ⟨rfl, _⟩ | ⟨g, cap, cur, rfl, _, hh, _⟩
      · simp [Value.ownBlock] at hv
      · simp [Value.ownBlock] at hv
        subst hv
        rw [x] at hh
        simp at hh
        exact h2 hh.2.1

/-- A writer that has written n bits, the number V, lies at block b. -/
structure WrAt (w : World) (base b V n : Nat) : Prop where
  lo : base ≤ b
  sz : base ≤ w.heap.size
  mem : ∃ p, w.heap[b]? = some (.cells #[.pointer p] 27 (0, 0)) ∧ ((p = none ∧ V = 0 ∧ n = 0) ∨ ∃ rb, p = some ⟨rb, 0, none⟩ ∧ RowAt w base rb V n)
/-- A writer whose row is at block rb. -/
structure WrRow (w : World) (base b rb V n : Nat) : Prop where
  lo : base ≤ b
  sz : base ≤ w.heap.size
  cell : w.heap[b]? = some (.cells #[.pointer (some ⟨rb, 0, none⟩)] 27 (0, 0))
  row : RowAt w base rb V n
theorem WrRow.at {w : World} {base b rb V n : Nat} (h : WrRow w base b rb V n) : WrAt w base b V n := ⟨h.lo, h.sz, _, h.cell, .inr ⟨rb, rfl, h.row⟩⟩
theorem WrAt.more {w w' : World} {base b V n : Nat} (h : WrAt w base b V n) (k : More w w') : WrAt w' base b V n := by
  obtain ⟨p, hb, hp⟩ := h.mem
  refine ⟨h.lo, Nat.le_trans h.sz k.size, p, by rw [k.block b (lt_of_block hb)]; exact hb, ?_⟩
  rcases hp with h1 | ⟨rb, h1, h2⟩
  · exact .inl h1
  · exact .inr ⟨rb, h1, k.row h2⟩
theorem WrAt.new (w : World) : WrAt (w.alloc (.cells #[.pointer none] 27)) w.heap.size w.heap.size 0 0 :=
  ⟨Nat.le_refl _, by simp, _, heap_alloc_new _ _, .inl ⟨rfl, rfl, rfl⟩⟩

theorem cells1 {w : World} {b : Nat} {u : Value} {t : TypeId} (h : w.heap[b]? = some (.cells #[u] t (0, 0))) : w.cell? ⟨b, 0, none⟩ = some u ∧ w.frozen? ⟨b, 0, none⟩ = false := by
  simp [World.cell?, World.frozen?, h]
theorem set_one {w : World} {b : Nat} {u x : Value} {t : TypeId} (h : w.heap[b]? = some (.cells #[u] t (0, 0))) : (w.setCell ⟨b, 0, none⟩ x).heap[b]? = some (.cells #[x] t (0, 0)) := by
  simpa using heap_setCell_same w b 0 #[u] t x h

/-- What is read of the writer's row, whichever it is. -/
theorem WrAt.fit {w : World} {base b V n : Nat} (h : WrAt w base b V n) : V < 2 ^ n := by
  obtain ⟨p, _, hp⟩ := h.mem
  rcases hp with ⟨_, rfl, rfl⟩ | ⟨rb, _, h2⟩
  · decide
  · exact h2.fit

set_option maxRecDepth 1000000 in
theorem wr_step (base b V n : Nat) (w : World) (h : WrAt w base b V n) :
    Calls Tryd.prog 48 #[.pointer (some ⟨b, 0, none⟩)] w fun e w' => ∃ rb, e = .returned (.func (.func 23) #[.pointer (some ⟨rb, 0, none⟩)] #[]) ∧ WrRow w' base b rb V n ∧ Keeps base w w' := by
  have hmf : ∀ (fn : Fn) (first cap : Array Value) (w : World), (Instr.makeFunc fn first cap).run Tryd.prog w = .ok (.func fn first cap) w := fun _ _ _ _ => rfl
  obtain ⟨p, hb, hp⟩ := h.mem
  obtain ⟨c0, z0⟩ := cells1 hb
  rcases hp with ⟨rfl, rfl, rfl⟩ | ⟨rb, rfl, hr⟩
  · have hlt := lt_of_block hb
    have hb1 : (w.alloc (.cells #[.slice none 0 0, .int .i64 0] 68)).heap[b]? = some (.cells #[.pointer none] 27 (0, 0)) := by rw [Below.heap_alloc _ _ _ hlt]; exact hb
    have hrow : RowAt ((w.alloc (.cells #[.slice none 0 0, .int .i64 0] 68)).setCell ⟨b, 0, none⟩ (.pointer (some ⟨w.heap.size, 0, none⟩))) base w.heap.size 0 0 :=
      ⟨h.sz, by decide, by decide, .slice none 0 0, set_off (heap_alloc_new _ _) (by simp; omega), World.ownsRow_nil _ _ _ _⟩
    have hk : Keeps base w ((w.alloc (.cells #[.slice none 0 0, .int .i64 0] 68)).setCell ⟨b, 0, none⟩ (.pointer (some ⟨w.heap.size, 0, none⟩))) :=
      ((Keeps.refl base w).alloc h.sz _).setCell h.lo hb1 (by decide) _
    have hone := set_one hb1 (x := .pointer (some ⟨w.heap.size, 0, none⟩))
    have heq : (w.alloc (.cells #[.slice none 0 0, .int .i64 0] 68)).setCell ⟨b, 0, none⟩ (.pointer (some ⟨w.heap.size, 0, none⟩)) = (w.setCell ⟨b, 0, none⟩ (.pointer (some ⟨w.heap.size, 0, none⟩))).alloc (.cells #[.slice none 0 0, .int .i64 0] 68) := World.setCell_alloc_past _ _ _ _ hlt
    rw [heq] at hone hrow hk
    have HH := Hid.mk (And.intro (And.intro hrow hk) (And.intro hone h))
    obtain ⟨d0, y0⟩ := cells1 hb1
    obtain ⟨e0, _⟩ := cells1 (HH.out.2.1)
    clear hb hrow hk h hb1 hone heq
    go_enter Tryd.func48, Tryd.ntmps48
    go_wp2_with (go_at_call 36; refine (new_row _).mono ?_; rintro e w' ⟨rfl, rfl⟩)
    go_ret
    exact ⟨_, rfl, ⟨HH.out.2.2.lo, by simp; exact Nat.le_succ_of_le HH.out.2.2.sz, HH.out.2.1, HH.out.1.1⟩, HH.out.1.2⟩
  · have HH := Hid.mk (And.intro (And.intro hb hr) h)
    clear hb hr h
    go_enter Tryd.func48, Tryd.ntmps48
    go_wp2
    go_ret
    exact ⟨_, rfl, ⟨HH.out.2.lo, HH.out.2.sz, HH.out.1.1, HH.out.1.2⟩, Keeps.refl _ _⟩

end Go.Proofs.YtgcjbkcfcklcfaaDoor
