/-
  wire in memory: a Writer (its bytes a row of the call's own), a Reader, the document's Reader.
-/
import Derived.Test.YtlghcnobgpocjaaRows
import Derived.Test.YtlghcnobgpocjaaWireMath
import Derived.WalkKit
import Derived.ProofKit
import Derived.Lib.Walk
import Derived.Lib.BitFns
import Derived.OneCell
import Derived.BigQuiet
import Derived.Deep.Light
import Derived.Laws.AppendOwnNone
import Derived.Laws.IdiomStrings
import Derived.StillTailTactics
import Derived.Deep.RegionWith
import Derived.Deep.RegionHeld
namespace Go.Proofs.Ytlghcnobgpocjaa
open Go.RowKit

theorem Hid.mk {p : Prop} (h : p) : Hid p := h

/-- A world that has new blocks, and else is as it was. -/
abbrev More (w w' : World) : Prop := Below w.heap.size w w'
theorem More.trans {a b c : World} (h : More a b) (k : More b c) : More a c := Below.trans h (k.mono h.size)
theorem More.own {w w' : World} {base : Nat} {e : TypeId} {size : Nat} {v : Value} {n : Nat} {xs : List Value} (h : w.ownsRow base e size v n xs) (k : More w w') : w'.ownsRow base e size v n xs :=
  h.kept (row := none) ⟨k.os, k.tape, k.output, k.size, fun i hi _ => k.block i hi⟩ (by cases v.ownBlock <;> simp)
theorem More.drewN (w : World) (m : Nat) : More w (w.drewN m) := ⟨rfl, rfl, rfl, Nat.le_refl _, fun _ _ => rfl⟩
theorem More.alloc (w : World) (o : Obj) : More w (w.alloc o) := (Below.refl _ w).alloc (Nat.le_refl _) o
theorem More.at {w w' : World} (k : More w w') {b : Nat} {o : Obj} (h : w.heap[b]? = some o) : w'.heap[b]? = some o := by rw [k.block b (lt_of_block h)]; exact h
theorem set_off {w : World} {b : Nat} {a : Addr} {x : Value} {o : Obj} (h : w.heap[b]? = some o) (hne : b ≠ a.block) : (w.setCell a x).heap[b]? = some o := by
  rw [heap_setCell_other w a b x hne]; exact h
theorem shape_of {w : World} {base : Nat} {v : Value} {K e : Nat} {xs : List Value} (h : w.ownsRow base e 1 v K xs) : ∃ ao cap, v = .slice ao K cap := by
  rcases h.2 with ⟨rfl, rfl⟩ | ⟨g, cap, _, rfl, _⟩
  · exact ⟨_, _, rfl⟩
  · exact ⟨_, _, rfl⟩

/-- From w to w' nothing below 'base' has turned, and of all blocks of cells none but such of the types in T. -/
structure Keeps (T : TypeId → Prop) (base : Nat) (w w' : World) : Prop where
  below : Below base w w'
  other : ∀ (k : Nat) (cs : Array Value) (t : TypeId) (z : Nat × Nat), ¬ T t → w.heap[k]? = some (Obj.cells cs t z) → w'.heap[k]? = some (Obj.cells cs t z)
theorem Keeps.refl (T : TypeId → Prop) (base : Nat) (w : World) : Keeps T base w w := ⟨Below.refl _ _, fun _ _ _ _ _ h => h⟩
theorem Keeps.trans {T : TypeId → Prop} {base : Nat} {a b c : World} (h : Keeps T base a b) (k : Keeps T base b c) : Keeps T base a c := ⟨h.below.trans k.below, fun _ _ _ _ hT x => k.other _ _ _ _ hT (h.other _ _ _ _ hT x)⟩
theorem Keeps.more {T : TypeId → Prop} {base : Nat} {w w' : World} (h : More w w') (hb : base ≤ w.heap.size) : Keeps T base w w' := ⟨h.mono hb, fun _ _ _ _ _ x => h.at x⟩
theorem Keeps.setCell {T : TypeId → Prop} {base : Nat} {a w : World} (h : Keeps T base a w) {p : Addr} (hp : base ≤ p.block) {cs : Array Value} {t : TypeId} {z : Nat × Nat} (hb : w.heap[p.block]? = some (.cells cs t z)) (ht : T t) (u : Value) : Keeps T base a (w.setCell p u) :=
  ⟨h.below.setCell hp u, fun k cs' t' z' hT x => by
    have hx := h.other k cs' t' z' hT x
    refine set_off hx fun e => hT ?_
    rw [← e, hx] at hb
    simp at hb
    rw [hb.2.1]; exact ht⟩
theorem Keeps.grown {T : TypeId → Prop} {base : Nat} {a w w' : World} {v : Value} {n : Nat} {xs : List Value} {t : TypeId} (h : Keeps T base a w) (hg : w.grownBy w' v.ownBlock) (hB : base ≤ w.heap.size) (hown : w.ownsRow base t 1 v n xs) (ht : T t) : Keeps T base a w' :=
  ⟨h.below.grown hg hB (fun k hk => (hown.lt k hk).1), fun k cs' t' z' hT x => by
    have hx := h.other k cs' t' z' hT x
    rw [hg.block k (lt_of_block hx) (fun e => ?_)]
    · exact hx
    · rcases hown.2 with ⟨rfl, _⟩ | ⟨g, cap, cur, rfl, _, hh, _⟩
      · simp [Value.ownBlock] at e
      · simp [Value.ownBlock] at e
        subst e
        rw [hx] at hh
        simp at hh
        exact hT (by rw [hh.2.1]; exact ht)⟩
theorem own_ne {w : World} {base b n : Nat} {v : Value} {xs : List Value} {cs : Array Value} {z : Nat × Nat} {t e : TypeId} (hb : w.heap[b]? = some (.cells cs t z)) (hown : w.ownsRow base e 1 v n xs) (hte : t ≠ e) : v.ownBlock ≠ some b := by
  intro h
  rcases hown.2 with ⟨rfl, _⟩ | ⟨g, cap, cur, rfl, _, hh, _⟩
  · simp [Value.ownBlock] at h
  · simp [Value.ownBlock] at h
    subst h
    rw [hb] at hh
    simp at hh
    exact hte hh.2.1

theorem cells1 {w : World} {b : Nat} {u : Value} {t : TypeId} (h : w.heap[b]? = some (.cells #[u] t (0, 0))) : w.cell? ⟨b, 0, none⟩ = some u ∧ w.frozen? ⟨b, 0, none⟩ = false := by
  simp [World.cell?, World.frozen?, h]
theorem set_one {w : World} {b : Nat} {u x : Value} {t : TypeId} (h : w.heap[b]? = some (.cells #[u] t (0, 0))) : (w.setCell ⟨b, 0, none⟩ x).heap[b]? = some (.cells #[x] t (0, 0)) := by
  simpa using heap_setCell_same w b 0 #[u] t x h
theorem cells2 {w : World} {b : Nat} {u v : Value} {t : TypeId} (h : w.heap[b]? = some (.cells #[u, v] t (0, 0))) :
    w.cell? ⟨b, 0, none⟩ = some u ∧ w.cell? ⟨b, 1, none⟩ = some v ∧ w.frozen? ⟨b, 0, none⟩ = false ∧ w.frozen? ⟨b, 1, none⟩ = false := by
  simp [World.cell?, World.frozen?, h]
theorem set_0 {w : World} {b : Nat} {u v x : Value} {t : TypeId} (h : w.heap[b]? = some (.cells #[u, v] t (0, 0))) : (w.setCell ⟨b, 0, none⟩ x).heap[b]? = some (.cells #[x, v] t (0, 0)) := by
  simpa using heap_setCell_same w b 0 #[u, v] t x h
theorem set_1 {w : World} {b : Nat} {u v x : Value} {t : TypeId} (h : w.heap[b]? = some (.cells #[u, v] t (0, 0))) : (w.setCell ⟨b, 1, none⟩ x).heap[b]? = some (.cells #[u, x] t (0, 0)) := by
  simpa using heap_setCell_same w b 1 #[u, v] t x h
theorem cells3 {w : World} {b : Nat} {u v x : Value} {t : TypeId} (h : w.heap[b]? = some (.cells #[u, v, x] t (0, 0))) :
    w.cell? ⟨b, 0, none⟩ = some u ∧ w.cell? ⟨b, 1, none⟩ = some v ∧ w.cell? ⟨b, 2, none⟩ = some x ∧ w.frozen? ⟨b, 0, none⟩ = false ∧ w.frozen? ⟨b, 1, none⟩ = false ∧ w.frozen? ⟨b, 2, none⟩ = false := by
  simp [World.cell?, World.frozen?, h]
theorem set3_1 {w : World} {b : Nat} {u v y x : Value} {t : TypeId} (h : w.heap[b]? = some (.cells #[u, v, y] t (0, 0))) : (w.setCell ⟨b, 1, none⟩ x).heap[b]? = some (.cells #[u, x, y] t (0, 0)) := by
  simpa using heap_setCell_same w b 1 #[u, v, y] t x h
theorem set3_2 {w : World} {b : Nat} {u v y x : Value} {t : TypeId} (h : w.heap[b]? = some (.cells #[u, v, y] t (0, 0))) : (w.setCell ⟨b, 2, none⟩ x).heap[b]? = some (.cells #[u, v, x] t (0, 0)) := by
  simpa using heap_setCell_same w b 2 #[u, v, y] t x h
theorem cells4 {w : World} {b : Nat} {u v x y : Value} {t : TypeId} (h : w.heap[b]? = some (.cells #[u, v, x, y] t (0, 0))) :
    w.cell? ⟨b, 0, none⟩ = some u ∧ w.cell? ⟨b, 1, none⟩ = some v ∧ w.cell? ⟨b, 2, none⟩ = some x ∧ w.cell? ⟨b, 3, none⟩ = some y := by
  simp [World.cell?, h]

/-- The types of blocks that a Writer, a Reader, the document's Reader turn. -/
def WT (t : TypeId) : Prop := t = 28 ∨ t = 5
def RT (t : TypeId) : Prop := t = 54
def XT (t : TypeId) : Prop := t = 38

/-- Bytes as cells. -/
def u8s (l : List UInt8) : List Value := l.map fun b => Value.int .u8 b.toNat
theorem u8s_len (l : List UInt8) : (u8s l).length = l.length := by simp [u8s]
theorem u8s_one (l : List UInt8) (n : Nat) (h : n < 256) : u8s l ++ [.int .u8 (n : Nat)] = u8s (l ++ [UInt8.ofNat n]) := by
  simp [u8s]; omega
theorem u8s_str (l m : List UInt8) : u8s l ++ Lib.strCells (bs m) = u8s (l ++ m) := by rw [bs_cells]; simp [u8s]

/-- A writer that has written l lies at block b. -/
structure WrAt (w : World) (base b : Nat) (l : List UInt8) : Prop where
  lo : base ≤ b
  sz : base ≤ w.heap.size
  mem : ∃ v, w.heap[b]? = some (.cells #[v] 28 (0, 0)) ∧ w.ownsRow base 5 1 v l.length (u8s l)
theorem WrAt.more {w w' : World} {base b : Nat} {l : List UInt8} (h : WrAt w base b l) (k : More w w') : WrAt w' base b l := by
  obtain ⟨v, hb, hv⟩ := h.mem
  exact ⟨h.lo, Nat.le_trans h.sz k.size, v, k.at hb, k.own hv⟩
theorem WrAt.new (w : World) : WrAt (w.alloc (.cells #[.slice none 0 0] 28)) w.heap.size w.heap.size [] :=
  ⟨Nat.le_refl _, by simp, _, heap_alloc_new _ _, World.ownsRow_nil _ _ _ _⟩

/-- A reader of l that stands at a and has the error E lies at block b. -/
structure RdAt (w : World) (base b : Nat) (l : List UInt8) (a E : Nat) : Prop where
  lo : base ≤ b
  sz : base ≤ w.heap.size
  le : a ≤ l.length
  len : l.length ≤ 100000000
  mem : w.heap[b]? = some (.cells #[.string (bs l), .int .i64 a, .int .i64 E] 54 (0, 0))
theorem RdAt.more {w w' : World} {base b a E : Nat} {l : List UInt8} (h : RdAt w base b l a E) (k : More w w') : RdAt w' base b l a E := ⟨h.lo, Nat.le_trans h.sz k.size, h.le, h.len, k.at h.mem⟩
theorem RdAt.goes {w : World} {base b a a' E : Nat} {l : List UInt8} (h : RdAt w base b l a E) (ha : a' ≤ l.length) : RdAt (w.setCell ⟨b, 1, none⟩ (.int .i64 a')) base b l a' E ∧ Keeps RT base w (w.setCell ⟨b, 1, none⟩ (.int .i64 a')) :=
  ⟨⟨h.lo, by simpa using h.sz, ha, h.len, set3_1 h.mem⟩, (Keeps.refl RT base w).setCell (p := ⟨b, 1, none⟩) h.lo h.mem rfl _⟩
theorem RdAt.errs {w : World} {base b a E E' : Nat} {l : List UInt8} (h : RdAt w base b l a E) : RdAt (w.setCell ⟨b, 2, none⟩ (.int .i64 E')) base b l a E' ∧ Keeps RT base w (w.setCell ⟨b, 2, none⟩ (.int .i64 E')) :=
  ⟨⟨h.lo, by simpa using h.sz, h.le, h.len, set3_2 h.mem⟩, (Keeps.refl RT base w).setCell (p := ⟨b, 2, none⟩) h.lo h.mem rfl _⟩

/-- The document's reader that has l left and the error E lies at block x. -/
structure XAt (w : World) (base x : Nat) (l : List UInt8) (E : Nat) : Prop where
  lo : base ≤ x
  sz : base ≤ w.heap.size
  len : l.length ≤ 100000000
  mem : w.heap[x]? = some (.cells #[.string (bs l), .int .i64 E] 38 (0, 0))
theorem XAt.more {w w' : World} {base x E : Nat} {l : List UInt8} (h : XAt w base x l E) (k : More w w') : XAt w' base x l E := ⟨h.lo, Nat.le_trans h.sz k.size, h.len, k.at h.mem⟩
theorem XAt.goes {w : World} {base x E : Nat} {l l' : List UInt8} (h : XAt w base x l E) (hl : l'.length ≤ 100000000) : XAt (w.setCell ⟨x, 0, none⟩ (.string (bs l'))) base x l' E ∧ Keeps XT base w (w.setCell ⟨x, 0, none⟩ (.string (bs l'))) :=
  ⟨⟨h.lo, by simpa using h.sz, hl, set_0 h.mem⟩, (Keeps.refl XT base w).setCell (p := ⟨x, 0, none⟩) h.lo h.mem rfl _⟩
theorem XAt.errs {w : World} {base x E E' : Nat} {l : List UInt8} (h : XAt w base x l E) : XAt (w.setCell ⟨x, 1, none⟩ (.int .i64 E')) base x l E' ∧ Keeps XT base w (w.setCell ⟨x, 1, none⟩ (.int .i64 E')) :=
  ⟨⟨h.lo, by simpa using h.sz, h.len, set_1 h.mem⟩, (Keeps.refl XT base w).setCell (p := ⟨x, 1, none⟩) h.lo h.mem rfl _⟩
theorem Keeps.rd {w w' : World} {base base' b a E : Nat} {l : List UInt8} (k : Keeps XT base' w w') (h : RdAt w base b l a E) : RdAt w' base b l a E := ⟨h.lo, Nat.le_trans h.sz k.below.size, h.le, h.len, k.other _ _ _ _ (by unfold XT; decide) h.mem⟩
theorem Keeps.x {w w' : World} {base base' x E : Nat} {l : List UInt8} (k : Keeps RT base' w w') (h : XAt w base x l E) : XAt w' base x l E := ⟨h.lo, Nat.le_trans h.sz k.below.size, h.len, k.other _ _ _ _ (by unfold RT; decide) h.mem⟩

end Go.Proofs.Ytlghcnobgpocjaa
