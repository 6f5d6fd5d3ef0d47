/-
  Texts in memory: rows of strings of a call's own; the general words on worlds.
-/
import Derived.Test.YteiegedffjkbeaaRows
import Derived.Test.YteiegedffjkbeaaTokMath
import Derived.WalkKit
import Derived.ProofKit
import Derived.Lib.Walk
import Derived.Lib.BitFns
import Derived.OneCell
import Derived.BigQuiet
import Derived.Deep.Light
import Derived.Laws.AppendOwnNone
import Derived.Laws.IdiomStrings
import Derived.StillTailTactics
import Derived.Deep.RegionWith
import Derived.Deep.RegionHeld
import Derived.Lib.Bytealg
import Derived.Lib.IndexLaws
import Derived.Maps.AppendAt
import Derived.Maps.OwnIn
import Derived.RangeFuncNested
import Derived.RangeFuncBound
import Derived.RangeFuncCalls
import Derived.RangeFuncLeaves
import Derived.RangeFuncBox
import Derived.RangeFuncFrom
import Derived.Shelf.Abstract
import Derived.Shelf.RegionOpen
import Derived.OwnWalkIn
import Derived.OwnWalk
import Derived.TacticsInMore
import Derived.LoopNIn
import Derived.LoopIn
import Derived.Sort.QuietIn
namespace Go.Proofs.Yteiegedffjkbeaa
open Go.RowKit

theorem Hid.mk {p : Prop} (h : p) : Hid p := h

/-- A world that has new blocks, and else is as it was. -/
abbrev More (w w' : World) : Prop := Below w.heap.size w w'
theorem More.trans {a b c : World} (h : More a b) (k : More b c) : More a c := Below.trans h (k.mono h.size)
theorem More.own {w w' : World} {base : Nat} {e : TypeId} {size : Nat} {v : Value} {n : Nat} {xs : List Value} (h : w.ownsRow base e size v n xs) (k : More w w') : w'.ownsRow base e size v n xs :=
  h.kept (row := none) ⟨k.os, k.tape, k.output, k.size, fun i hi _ => k.block i hi⟩ (by cases v.ownBlock <;> simp)
theorem More.drewN (w : World) (m : Nat) : More w (w.drewN m) := ⟨rfl, rfl, rfl, Nat.le_refl _, fun _ _ => rfl⟩
theorem More.alloc (w : World) (o : Obj) : More w (w.alloc o) := (Below.refl _ w).alloc (Nat.le_refl _) o
theorem More.at {w w' : World} (k : More w w') {b : Nat} {o : Obj} (h : w.heap[b]? = some o) : w'.heap[b]? = some o := by rw [k.block b (lt_of_block h)]; exact h
theorem wset_off {w : World} {b : Nat} {a : Addr} {x : Value} {o : Obj} (h : w.heap[b]? = some o) (hne : b ≠ a.block) : (w.setCell a x).heap[b]? = some o := by
  rw [heap_setCell_other w a b x hne]; exact h
theorem wshape_of {w : World} {base : Nat} {v : Value} {K e : Nat} {xs : List Value} (h : w.ownsRow base e 1 v K xs) : ∃ ao cap, v = .slice ao K cap := by
  rcases h.2 with ⟨rfl, rfl⟩ | ⟨g, cap, _, rfl, _⟩
  · exact ⟨_, _, rfl⟩
  · exact ⟨_, _, rfl⟩

/-- From w to w' nothing below 'base' has turned, and of all blocks of cells none but such of the types in T. -/
structure KeepsT (T : TypeId → Prop) (base : Nat) (w w' : World) : Prop where
  below : Below base w w'
  other : ∀ (k : Nat) (cs : Array Value) (t : TypeId) (z : Nat × Nat), ¬ T t → w.heap[k]? = some (Obj.cells cs t z) → w'.heap[k]? = some (Obj.cells cs t z)
  marks : ∀ (k : Nat) (x : Option (List Deferred)), w.heap[k]? = some (Obj.deferred x) → w'.heap[k]? = some (Obj.deferred x)
theorem KeepsT.refl (T : TypeId → Prop) (base : Nat) (w : World) : KeepsT T base w w := ⟨Below.refl _ _, fun _ _ _ _ _ h => h, fun _ _ h => h⟩
theorem KeepsT.trans {T : TypeId → Prop} {base : Nat} {a b c : World} (h : KeepsT T base a b) (k : KeepsT T base b c) : KeepsT T base a c := ⟨h.below.trans k.below, fun _ _ _ _ hT x => k.other _ _ _ _ hT (h.other _ _ _ _ hT x), fun _ _ x => k.marks _ _ (h.marks _ _ x)⟩
theorem KeepsT.more {T : TypeId → Prop} {base : Nat} {w w' : World} (h : More w w') (hb : base ≤ w.heap.size) : KeepsT T base w w' := ⟨h.mono hb, fun _ _ _ _ _ x => h.at x, fun _ _ x => h.at x⟩
theorem KeepsT.setCell {T : TypeId → Prop} {base : Nat} {a w : World} (h : KeepsT T base a w) {p : Addr} (hp : base ≤ p.block) {cs : Array Value} {t : TypeId} {z : Nat × Nat} (hb : w.heap[p.block]? = some (.cells cs t z)) (ht : T t) (u : Value) : KeepsT T base a (w.setCell p u) :=
  ⟨h.below.setCell hp u, fun k cs' t' z' hT x => by
    have hx := h.other k cs' t' z' hT x
    refine wset_off hx fun e => hT ?_
    rw [← e, hx] at hb
    simp at hb
    rw [hb.2.1]; exact ht, fun k x hk => by
    have hx := h.marks k x hk
    refine wset_off hx fun e => ?_
    rw [← e, hx] at hb
    simp at hb⟩
theorem KeepsT.grown {T : TypeId → Prop} {base : Nat} {a w w' : World} {v : Value} {n : Nat} {xs : List Value} {t : TypeId} (h : KeepsT T base a w) (hg : w.grownBy w' v.ownBlock) (hB : base ≤ w.heap.size) (hown : w.ownsRow base t 1 v n xs) (ht : T t) : KeepsT T base a w' :=
  ⟨h.below.grown hg hB (fun k hk => (hown.lt k hk).1), fun k cs' t' z' hT x => by
    have hx := h.other k cs' t' z' hT x
    rw [hg.block k (lt_of_block hx) (fun e => ?_)]
    · exact hx
    · rcases hown.2 with ⟨rfl, _⟩ | ⟨g, cap, cur, rfl, _, hh, _⟩
      · simp [Value.ownBlock] at e
      · simp [Value.ownBlock] at e
        subst e
        rw [hx] at hh
        simp at hh
        exact hT (by rw [hh.2.1]; exact ht), fun k x hk => by
    have hx := h.marks k x hk
    rw [hg.block k (lt_of_block hx) (fun e => ?_)]
    · exact hx
    · rcases hown.2 with ⟨rfl, _⟩ | ⟨g, cap, cur, rfl, _, hh, _⟩
      · simp [Value.ownBlock] at e
      · simp [Value.ownBlock] at e
        subst e
        rw [hx] at hh
        simp at hh⟩
theorem wown_ne {w : World} {base b n : Nat} {v : Value} {xs : List Value} {cs : Array Value} {z : Nat × Nat} {t e : TypeId} (hb : w.heap[b]? = some (.cells cs t z)) (hown : w.ownsRow base e 1 v n xs) (hte : t ≠ e) : v.ownBlock ≠ some b := by
  intro h
  rcases hown.2 with ⟨rfl, _⟩ | ⟨g, cap, cur, rfl, _, hh, _⟩
  · simp [Value.ownBlock] at h
  · simp [Value.ownBlock] at h
    subst h
    rw [hb] at hh
    simp at hh
    exact hte hh.2.1

theorem wcells1 {w : World} {b : Nat} {u : Value} {t : TypeId} (h : w.heap[b]? = some (.cells #[u] t (0, 0))) : w.cell? ⟨b, 0, none⟩ = some u ∧ w.frozen? ⟨b, 0, none⟩ = false := by
  simp [World.cell?, World.frozen?, h]
theorem set_one {w : World} {b : Nat} {u x : Value} {t : TypeId} (h : w.heap[b]? = some (.cells #[u] t (0, 0))) : (w.setCell ⟨b, 0, none⟩ x).heap[b]? = some (.cells #[x] t (0, 0)) := by
  simpa using heap_setCell_same w b 0 #[u] t x h
theorem wcells2 {w : World} {b : Nat} {u v : Value} {t : TypeId} (h : w.heap[b]? = some (.cells #[u, v] t (0, 0))) :
    w.cell? ⟨b, 0, none⟩ = some u ∧ w.cell? ⟨b, 1, none⟩ = some v ∧ w.frozen? ⟨b, 0, none⟩ = false ∧ w.frozen? ⟨b, 1, none⟩ = false := by
  simp [World.cell?, World.frozen?, h]
theorem wset_0 {w : World} {b : Nat} {u v x : Value} {t : TypeId} (h : w.heap[b]? = some (.cells #[u, v] t (0, 0))) : (w.setCell ⟨b, 0, none⟩ x).heap[b]? = some (.cells #[x, v] t (0, 0)) := by
  simpa using heap_setCell_same w b 0 #[u, v] t x h
theorem wset_1 {w : World} {b : Nat} {u v x : Value} {t : TypeId} (h : w.heap[b]? = some (.cells #[u, v] t (0, 0))) : (w.setCell ⟨b, 1, none⟩ x).heap[b]? = some (.cells #[u, x] t (0, 0)) := by
  simpa using heap_setCell_same w b 1 #[u, v] t x h
theorem wcells3 {w : World} {b : Nat} {u v x : Value} {t : TypeId} (h : w.heap[b]? = some (.cells #[u, v, x] t (0, 0))) :
    w.cell? ⟨b, 0, none⟩ = some u ∧ w.cell? ⟨b, 1, none⟩ = some v ∧ w.cell? ⟨b, 2, none⟩ = some x ∧ w.frozen? ⟨b, 0, none⟩ = false ∧ w.frozen? ⟨b, 1, none⟩ = false ∧ w.frozen? ⟨b, 2, none⟩ = false := by
  simp [World.cell?, World.frozen?, h]
theorem wset3_1 {w : World} {b : Nat} {u v y x : Value} {t : TypeId} (h : w.heap[b]? = some (.cells #[u, v, y] t (0, 0))) : (w.setCell ⟨b, 1, none⟩ x).heap[b]? = some (.cells #[u, x, y] t (0, 0)) := by
  simpa using heap_setCell_same w b 1 #[u, v, y] t x h
theorem set3_2 {w : World} {b : Nat} {u v y x : Value} {t : TypeId} (h : w.heap[b]? = some (.cells #[u, v, y] t (0, 0))) : (w.setCell ⟨b, 2, none⟩ x).heap[b]? = some (.cells #[u, v, x] t (0, 0)) := by
  simpa using heap_setCell_same w b 2 #[u, v, y] t x h
theorem cells4 {w : World} {b : Nat} {u v x y : Value} {t : TypeId} (h : w.heap[b]? = some (.cells #[u, v, x, y] t (0, 0))) :
    w.cell? ⟨b, 0, none⟩ = some u ∧ w.cell? ⟨b, 1, none⟩ = some v ∧ w.cell? ⟨b, 2, none⟩ = some x ∧ w.cell? ⟨b, 3, none⟩ = some y := by
  simp [World.cell?, h]


theorem more_alloc (w : World) (o : Obj) : More w (w.alloc o) := (Below.refl _ w).alloc (Nat.le_refl _) o
theorem More.refl (w : World) : More w w := Below.refl _ w
theorem boxed_more {W W' : World} {B : Nat} {t : TypeId} {v : Value} (h : Boxed W B t v) (k : More W W') : Boxed W' B t v := (k.block B h.lt).trans h
theorem one_mark {C : Nat → Prop} {D : Nat} (h : ¬ C D) : ∀ d ∈ [({ target := .collected D, args := #[] } : Deferred)], ∀ D', d.target = .collected D' → ¬ C D' := fun d hd D' he => by
  rcases List.mem_cons.1 hd with rfl | hd
  · cases he; exact h
  · cases hd
theorem one_cell (w : World) (v : Value) (e : TypeId) : ∀ (j : Nat) u, [v][j]? = some u → (w.alloc (.cells #[v] e)).cell? ((⟨w.heap.size, 0, none⟩ : Addr).add j) = some u := by
  intro j u hj
  match j, hj with
  | 0, hj => simp at hj; subst hj; simp [Addr.add]
theorem one_str (s : ByteArray) : ∀ u ∈ [Value.string s], u.oneCell' = true := by intro u hu; simp at hu; subst hu; rfl
theorem one_slice (a : Option Addr) (n c : Nat) : ∀ u ∈ [Value.slice a n c], u.oneCell' = true := by intro u hu; simp at hu; subst hu; rfl
theorem ret_i64 {a b : Int} (h : a = b) : Ending.returned (.int .i64 a) = .returned (.int .i64 b) := by rw [h]
theorem ret_bool {a b : Bool} (h : a = b) : Ending.returned (.bool a) = .returned (.bool b) := by rw [h]
theorem ret_str {a b : List UInt8} (h : a = b) : Ending.returned (.string (bs a)) = .returned (.string (bs b)) := by rw [h]

/-- Texts as values. -/
def strs (ts : List (List UInt8)) : List Value := ts.map fun t => .string (bs t)
theorem strs_len (ts : List (List UInt8)) : (strs ts).length = ts.length := by simp [strs]
theorem strs_snoc (ts : List (List UInt8)) (t : List UInt8) : strs (ts ++ [t]) = strs ts ++ [.string (bs t)] := by simp [strs]
theorem strs_get (ts : List (List UInt8)) (k : Nat) (h : k < ts.length) : (strs ts)[k]? = some (.string (bs (ts.getD k []))) := by
  simp [strs, List.getD, List.getElem?_eq_getElem h]
/-- A row of texts as read. -/
def SRd (w : World) (v : Value) (ts : List (List UInt8)) : Prop := ∃ B, w.ownsRow B 9 1 v ts.length (strs ts)
theorem SRd.more {w w' : World} {v : Value} {ts : List (List UInt8)} (h : SRd w v ts) (k : More w w') : SRd w' v ts := by
  obtain ⟨B, hB⟩ := h
  exact ⟨B, k.own hB⟩
theorem SRd.drawn {w : World} {v : Value} {ts : List (List UInt8)} (h : SRd w v ts) (m : Nat) : SRd (w.drewN m) v ts := h.more (More.drewN w m)
theorem SRd.shape {w : World} {v : Value} {ts : List (List UInt8)} (h : SRd w v ts) : ∃ ao cap, v = .slice ao ts.length cap := by
  obtain ⟨B, hB⟩ := h
  exact wshape_of hB
theorem SRd.form {w : World} {v : Value} {ts : List (List UInt8)} (h : SRd w v ts) : (ts = [] ∧ v = .slice none 0 0) ∨ ∃ g cap, v = .slice (some ⟨g, 0, none⟩) ts.length cap ∧ ts.length ≤ cap ∧ ∀ k, k < ts.length → w.cell? ⟨g, k, none⟩ = some (.string (bs (ts.getD k []))) := by
  obtain ⟨B, hB⟩ := h
  rcases hB.2 with ⟨hv, hn⟩ | ⟨g, cap, cur, rfl, h1, h2, h3, h4, h5, h6⟩
  · exact .inl ⟨List.eq_nil_of_length_eq_zero hn, hv⟩
  · refine .inr ⟨g, cap, rfl, h3, fun k hk => ?_⟩
    rw [hB.cellAt k (by omega), strs_get ts k hk]

end Go.Proofs.Yteiegedffjkbeaa
