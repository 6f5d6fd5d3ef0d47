/-
  A row in memory: two cells (its words and how many bits), the words a row of cells of the call's own.
-/
import Derived.Test.YtgcaenpflndibaaDoorRows
import Derived.Test.YtgcaenpflndibaaDoorRowMath
import Derived.Test.YtgcaenpflndibaaDoorTz
import Derived.WalkKit
import Derived.ProofKit
import Derived.Lib.Walk
import Derived.OneCell
namespace Go.Proofs.YtgcaenpflndibaaDoor
open Go.RowKit

/-- The cells of K words. -/
def u64s (f : Nat → Nat) (K : Nat) : List Value := (List.range K).map fun i => Value.int .u64 (f i : Nat)
theorem u64s_len (f : Nat → Nat) (K : Nat) : (u64s f K).length = K := by simp [u64s]
theorem u64s_get (f : Nat → Nat) (K i : Nat) (h : i < K) : (u64s f K)[i]? = some (.int .u64 (f i : Nat)) := by simp [u64s, h]
theorem u64s_congr {f g : Nat → Nat} {K : Nat} (h : ∀ i, i < K → f i = g i) : u64s f K = u64s g K := by
  unfold u64s
  apply List.map_congr_left
  intro i hi
  rw [h i (by simpa using hi)]

/-- A row of n bits, the number V, lies at block b, from block 'base' on. -/
structure RowAt (w : World) (base b V n : Nat) : Prop where
  lo : base ≤ b
  fit : V < 2 ^ n
  len : n ≤ 1099511627776
  mem : ∃ v, w.heap[b]? = some (.cells #[v, .int .i64 n] 80 (0, 0)) ∧ w.ownsRow base 57 1 v (nw n) (u64s (wd V) (nw n))

theorem cells2 {w : World} {b : Nat} {u v : Value} {t : TypeId} (h : w.heap[b]? = some (.cells #[u, v] t (0, 0))) :
    w.cell? ⟨b, 0, none⟩ = some u ∧ w.cell? ⟨b, 1, none⟩ = some v ∧ w.frozen? ⟨b, 0, none⟩ = false ∧ w.frozen? ⟨b, 1, none⟩ = false := by
  simp [World.cell?, World.frozen?, h]

theorem set_0 {w : World} {b : Nat} {u v x : Value} {t : TypeId} (h : w.heap[b]? = some (.cells #[u, v] t (0, 0))) : (w.setCell ⟨b, 0, none⟩ x).heap[b]? = some (.cells #[x, v] t (0, 0)) := by
  simpa using heap_setCell_same w b 0 #[u, v] t x h
theorem set_1 {w : World} {b : Nat} {u v x : Value} {t : TypeId} (h : w.heap[b]? = some (.cells #[u, v] t (0, 0))) : (w.setCell ⟨b, 1, none⟩ x).heap[b]? = some (.cells #[u, x] t (0, 0)) := by
  simpa using heap_setCell_same w b 1 #[u, v] t x h
theorem set_off {w : World} {b : Nat} {a : Addr} {x : Value} {o : Obj} (h : w.heap[b]? = some o) (hne : b ≠ a.block) : (w.setCell a x).heap[b]? = some o := by
  rw [heap_setCell_other w a b x hne]; exact h

/-- From w to w' nothing below 'base' has turned, and no block of bools. -/
structure Keeps (base : Nat) (w w' : World) : Prop where
  below : Below base w w'
  bools : ∀ (k : Nat) (cs : Array Value) (z : Nat × Nat), w.heap[k]? = some (Obj.cells cs 4 z) → w'.heap[k]? = some (Obj.cells cs 4 z)

theorem Keeps.refl (base : Nat) (w : World) : Keeps base w w := ⟨Below.refl _ _, fun _ _ _ h => h⟩
theorem Keeps.trans {base : Nat} {a b c : World} (h : Keeps base a b) (k : Keeps base b c) : Keeps base a c := ⟨h.below.trans k.below, fun _ _ _ x => k.bools _ _ _ (h.bools _ _ _ x)⟩
theorem Keeps.drew {base : Nat} {a w : World} (h : Keeps base a w) : Keeps base a w.drew := ⟨h.below.drew, h.bools⟩
theorem Keeps.drewN {base : Nat} {a w : World} (h : Keeps base a w) (m : Nat) : Keeps base a (w.drewN m) := ⟨⟨h.below.os, h.below.tape, h.below.output, h.below.size, h.below.block⟩, h.bools⟩
theorem Keeps.alloc {base : Nat} {a w : World} (h : Keeps base a w) (hB : base ≤ w.heap.size) (o : Obj) : Keeps base a (w.alloc o) :=
  ⟨h.below.alloc hB o, fun k cs z x => by
    have hx := h.bools k cs z x
    rw [Below.heap_alloc _ _ _ (lt_of_block hx)]; exact hx⟩
theorem Keeps.setCell {base : Nat} {a w : World} (h : Keeps base a w) {p : Addr} (hp : base ≤ p.block) {cs : Array Value} {t : TypeId} {z : Nat × Nat} (hb : w.heap[p.block]? = some (.cells cs t z)) (ht : t ≠ 4) (u : Value) : Keeps base a (w.setCell p u) :=
  ⟨h.below.setCell hp u, fun k cs' z' x => by
    have hx := h.bools k cs' z' x
    refine set_off hx fun e => ?_
    rw [← e, hx] at hb
    simp at hb
    exact ht hb.2.1.symm⟩
theorem Keeps.grown {base : Nat} {a w w' : World} {v : Value} {n : Nat} {xs : List Value} {t : TypeId} (h : Keeps base a w) (hg : w.grownBy w' v.ownBlock) (hB : base ≤ w.heap.size) (hown : w.ownsRow base t 1 v n xs) (ht : t ≠ 4) : Keeps base a w' :=
  ⟨h.below.grown hg hB (fun k hk => (hown.lt k hk).1), fun k cs' z' x => by
    have hx := h.bools k cs' z' x
    rw [hg.block k (lt_of_block hx) (fun e => ?_)]
    · exact hx
    · rcases hown.2 with ⟨rfl, _⟩ | ⟨g, cap, cur, rfl, _, hh, _⟩
      · simp [Value.ownBlock] at e
      · simp [Value.ownBlock] at e
        subst e
        rw [hx] at hh
        simp at hh
        exact ht hh.2.1.symm⟩

/-- Likewise, and of all blocks that were there those in S alone have turned. -/
structure KeepsO (base : Nat) (S : Nat → Prop) (w w' : World) : Prop extends Keeps base w w' where
  only : ∀ k, k < w.heap.size → ¬ S k → w'.heap[k]? = w.heap[k]?

theorem KeepsO.refl (base : Nat) (S : Nat → Prop) (w : World) : KeepsO base S w w := ⟨Keeps.refl _ _, fun _ _ _ => rfl⟩
theorem KeepsO.drew {base : Nat} {S : Nat → Prop} {a w : World} (h : KeepsO base S a w) : KeepsO base S a w.drew := ⟨h.toKeeps.drew, h.only⟩
theorem KeepsO.drewN {base : Nat} {S : Nat → Prop} {a w : World} (h : KeepsO base S a w) (m : Nat) : KeepsO base S a (w.drewN m) := ⟨h.toKeeps.drewN m, h.only⟩
theorem KeepsO.alloc {base : Nat} {S : Nat → Prop} {a w : World} (h : KeepsO base S a w) (hB : base ≤ w.heap.size) (o : Obj) : KeepsO base S a (w.alloc o) :=
  ⟨h.toKeeps.alloc hB o, fun k hk hs => by rw [Below.heap_alloc _ _ _ (Nat.lt_of_lt_of_le hk h.below.size)]; exact h.only k hk hs⟩
theorem KeepsO.setCell {base : Nat} {S : Nat → Prop} {a w : World} (h : KeepsO base S a w) {p : Addr} (hp : base ≤ p.block) {cs : Array Value} {t : TypeId} {z : Nat × Nat} (hb : w.heap[p.block]? = some (.cells cs t z)) (ht : t ≠ 4) (hS : S p.block) (u : Value) : KeepsO base S a (w.setCell p u) :=
  ⟨h.toKeeps.setCell hp hb ht u, fun k hk hs => by
    have hne : k ≠ p.block := fun e => hs (by rw [e]; exact hS)
    rw [Below.heap_setCell _ _ _ _ hne]; exact h.only k hk hs⟩
theorem KeepsO.grown {base : Nat} {S : Nat → Prop} {a w w' : World} {v : Value} {n : Nat} {xs : List Value} {t : TypeId} (h : KeepsO base S a w) (hg : w.grownBy w' v.ownBlock) (hB : base ≤ w.heap.size) (hown : w.ownsRow base t 1 v n xs) (ht : t ≠ 4) (hS : ∀ k, v.ownBlock = some k → S k) : KeepsO base S a w' :=
  ⟨h.toKeeps.grown hg hB hown ht, fun k hk hs => by rw [hg.block k (Nat.lt_of_lt_of_le hk h.below.size) (fun e => hs (hS k e.symm))]; exact h.only k hk hs⟩

theorem own_ne {w : World} {base b n : Nat} {v : Value} {xs : List Value} {cs : Array Value} {z : Nat × Nat} {t e : TypeId} (hb : w.heap[b]? = some (.cells cs t z)) (hown : w.ownsRow base e 1 v n xs) (hte : t ≠ e) : v.ownBlock ≠ some b := by
  intro h
  rcases hown.2 with ⟨rfl, _⟩ | ⟨g, cap, cur, rfl, _, hh, _⟩
  · simp [Value.ownBlock] at h
  · simp [Value.ownBlock] at h
    subst h
    rw [hb] at hh
    simp at hh
    exact hte hh.2.1

theorem new_row (w : World) : Calls Tryd.prog 38 #[] w fun e w' => e = .returned (.pointer (some ⟨w.heap.size, 0, none⟩)) ∧ w' = w.alloc (.cells #[.slice none 0 0, .int .i64 0] 80) := by
  go_enter Tryd.func38, Tryd.ntmps38
  go_wp2
  go_ret
  exact ⟨rfl, rfl⟩

theorem wordsOf (n : Nat) (hn : n ≤ 9223372036854775807) (w : World) : Calls Tryd.prog 56 #[.int .i64 n] w fun e w' => e = .returned (.int .i64 (nw n : Nat)) ∧ w' = w := by
  go_enter Tryd.func56, Tryd.ntmps56
  go_wp2
  all_goals go_ret
  · rename_i h
    have h1 : (n : Int) % 64 ≠ 0 := by simpa using h
    have : (n : Int) / 64 + 1 = ((nw n : Nat) : Int) := by unfold nw; omega
    exact ⟨by simp [this], rfl⟩
  · rename_i h
    have h1 : (n : Int) % 64 = 0 := by simpa using h
    have : (n : Int) / 64 = ((nw n : Nat) : Int) := by unfold nw; omega
    exact ⟨by simp [this], rfl⟩

theorem row_len (b n : Nat) (w : World) (h1 : w.cell? ⟨b, 1, none⟩ = some (.int .i64 n)) : Calls Tryd.prog 37 #[.pointer (some ⟨b, 0, none⟩)] w fun e w' => e = .returned (.int .i64 n) ∧ w' = w := by
  go_enter Tryd.func37, Tryd.ntmps37
  go_wp2
  go_ret
  exact ⟨rfl, rfl⟩

theorem nil_len (w : World) : Calls Tryd.prog 37 #[.pointer none] w fun e w' => e = .returned (.int .i64 0) ∧ w' = w := by
  go_enter Tryd.func37, Tryd.ntmps37
  go_wp2
  go_ret
  exact ⟨rfl, rfl⟩

end Go.Proofs.YtgcaenpflndibaaDoor
