/-
  wire in memory: a Writer (its bytes a row of the call's own), a Reader, the document's Reader.
  wire's Reader: Open, Fail, Left, Err, End.
  wire's Writer: Num, Int, Text, Raw, Bytes.
-/
import Derived.Test.YtbjgbigalfhnjaaGreatDoorRows
import Derived.Test.YtbjgbigalfhnjaaGreatDoorSet01
import Derived.Test.YtbjgbigalfhnjaaGreatDoorSet05
import Derived.WalkKit
import Derived.ProofKit
import Derived.Lib.Walk
import Derived.Lib.BitFns
import Derived.OneCell
import Derived.BigQuiet
import Derived.Deep.Light
import Derived.Laws.AppendOwnNone
import Derived.Laws.IdiomStrings
import Derived.StillTailTactics
import Derived.Deep.RegionWith
import Derived.Deep.RegionHeld
namespace Go.Proofs.YtbjgbigalfhnjaaGreatDoor
open Go.RowKit

theorem More.alloc (w : World) (o : Obj) : More w (w.alloc o) := (Below.refl _ w).alloc (Nat.le_refl _) o
theorem More.at {w w' : World} (k : More w w') {b : Nat} {o : Obj} (h : w.heap[b]? = some o) : w'.heap[b]? = some o := by rw [k.block b (lt_of_block h)]; exact h
theorem wset_off {w : World} {b : Nat} {a : Addr} {x : Value} {o : Obj} (h : w.heap[b]? = some o) (hne : b ≠ a.block) : (w.setCell a x).heap[b]? = some o := by
  rw [heap_setCell_other w a b x hne]; exact h
theorem wshape_of {w : World} {base : Nat} {v : Value} {K e : Nat} {xs : List Value} (h : w.ownsRow base e 1 v K xs) : ∃ ao cap, v = .slice ao K cap := by
  rcases h.2 with ⟨rfl, rfl⟩ | ⟨g, cap, _, rfl, _⟩
  · exact ⟨_, _, rfl⟩
  · exact ⟨_, _, rfl⟩

/-- From w to w' nothing below 'base' has turned, and of all blocks of cells none but such of the types in T. -/
structure KeepsT (T : TypeId → Prop) (base : Nat) (w w' : World) : Prop where
  below : Below base w w'
  other : ∀ (k : Nat) (cs : Array Value) (t : TypeId) (z : Nat × Nat), ¬ T t → w.heap[k]? = some (Obj.cells cs t z) → w'.heap[k]? = some (Obj.cells cs t z)
  marks : ∀ (k : Nat) (x : Option (List Deferred)), w.heap[k]? = some (Obj.deferred x) → w'.heap[k]? = some (Obj.deferred x)
theorem KeepsT.refl (T : TypeId → Prop) (base : Nat) (w : World) : KeepsT T base w w := ⟨Below.refl _ _, fun _ _ _ _ _ h => h, fun _ _ h => h⟩
theorem KeepsT.trans {T : TypeId → Prop} {base : Nat} {a b c : World} (h : KeepsT T base a b) (k : KeepsT T base b c) : KeepsT T base a c := ⟨h.below.trans k.below, fun _ _ _ _ hT x => k.other _ _ _ _ hT (h.other _ _ _ _ hT x), fun _ _ x => k.marks _ _ (h.marks _ _ x)⟩
theorem KeepsT.more {T : TypeId → Prop} {base : Nat} {w w' : World} (h : More w w') (hb : base ≤ w.heap.size) : KeepsT T base w w' := ⟨h.mono hb, fun _ _ _ _ _ x => h.at x, fun _ _ x => h.at x⟩
theorem KeepsT.setCell {T : TypeId → Prop} {base : Nat} {a w : World} (h : KeepsT T base a w) {p : Addr} (hp : base ≤ p.block) {cs : Array Value} {t : TypeId} {z : Nat × Nat} (hb : w.heap[p.block]? = some (.cells cs t z)) (ht : T t) (u : Value) : KeepsT T base a (w.setCell p u) :=
  ⟨h.below.setCell hp u, fun k cs' t' z' hT x => by
    have hx := h.other k cs' t' z' hT x
    refine wset_off hx fun e => hT ?_
    rw [← e, hx] at hb
    simp at hb
    rw [hb.2.1]; exact ht, fun k x hk => by
    have hx := h.marks k x hk
    refine wset_off hx fun e => ?_
    rw [← e, hx] at hb
    simp at hb⟩
theorem KeepsT.grown {T : TypeId → Prop} {base : Nat} {a w w' : World} {v : Value} {n : Nat} {xs : List Value} {t : TypeId} (h : KeepsT T base a w) (hg : w.grownBy w' v.ownBlock) (hB : base ≤ w.heap.size) (hown : w.ownsRow base t 1 v n xs) (ht : T t) : KeepsT T base a w' :=
  ⟨h.below.grown hg hB (fun k hk => (hown.lt k hk).1), fun k cs' t' z' hT x => by
    have hx := h.other k cs' t' z' hT x
    rw [hg.block k (lt_of_block hx) (fun e => ?_)]
    · exact hx
    · rcases hown.2 with ⟨rfl, _⟩ | ⟨g, cap, cur, rfl, _, hh, _⟩
      · simp [Value.ownBlock] at e
      · simp [Value.ownBlock] at e
        subst e
        rw [hx] at hh
        simp at hh
        exact hT (by rw [hh.2.1]; exact ht), fun k x hk => by
    have hx := h.marks k x hk
    rw [hg.block k (lt_of_block hx) (fun e => ?_)]
    · exact hx
    · rcases hown.2 with ⟨rfl, _⟩ | ⟨g, cap, cur, rfl, _, hh, _⟩
      · simp [Value.ownBlock] at e
      · simp [Value.ownBlock] at e
        subst e
        rw [hx] at hh
        simp at hh⟩
theorem wown_ne {w : World} {base b n : Nat} {v : Value} {xs : List Value} {cs : Array Value} {z : Nat × Nat} {t e : TypeId} (hb : w.heap[b]? = some (.cells cs t z)) (hown : w.ownsRow base e 1 v n xs) (hte : t ≠ e) : v.ownBlock ≠ some b := by
  intro h
  rcases hown.2 with ⟨rfl, _⟩ | ⟨g, cap, cur, rfl, _, hh, _⟩
  · simp [Value.ownBlock] at h
  · simp [Value.ownBlock] at h
    subst h
    rw [hb] at hh
    simp at hh
    exact hte hh.2.1

theorem wcells1 {w : World} {b : Nat} {u : Value} {t : TypeId} (h : w.heap[b]? = some (.cells #[u] t (0, 0))) : w.cell? ⟨b, 0, none⟩ = some u ∧ w.frozen? ⟨b, 0, none⟩ = false := by
  simp [World.cell?, World.frozen?, h]
theorem set_one {w : World} {b : Nat} {u x : Value} {t : TypeId} (h : w.heap[b]? = some (.cells #[u] t (0, 0))) : (w.setCell ⟨b, 0, none⟩ x).heap[b]? = some (.cells #[x] t (0, 0)) := by
  simpa using heap_setCell_same w b 0 #[u] t x h
theorem wcells2 {w : World} {b : Nat} {u v : Value} {t : TypeId} (h : w.heap[b]? = some (.cells #[u, v] t (0, 0))) :
    w.cell? ⟨b, 0, none⟩ = some u ∧ w.cell? ⟨b, 1, none⟩ = some v ∧ w.frozen? ⟨b, 0, none⟩ = false ∧ w.frozen? ⟨b, 1, none⟩ = false := by
  simp [World.cell?, World.frozen?, h]
theorem wset_0 {w : World} {b : Nat} {u v x : Value} {t : TypeId} (h : w.heap[b]? = some (.cells #[u, v] t (0, 0))) : (w.setCell ⟨b, 0, none⟩ x).heap[b]? = some (.cells #[x, v] t (0, 0)) := by
  simpa using heap_setCell_same w b 0 #[u, v] t x h
theorem wset_1 {w : World} {b : Nat} {u v x : Value} {t : TypeId} (h : w.heap[b]? = some (.cells #[u, v] t (0, 0))) : (w.setCell ⟨b, 1, none⟩ x).heap[b]? = some (.cells #[u, x] t (0, 0)) := by
  simpa using heap_setCell_same w b 1 #[u, v] t x h
theorem wcells3 {w : World} {b : Nat} {u v x : Value} {t : TypeId} (h : w.heap[b]? = some (.cells #[u, v, x] t (0, 0))) :
    w.cell? ⟨b, 0, none⟩ = some u ∧ w.cell? ⟨b, 1, none⟩ = some v ∧ w.cell? ⟨b, 2, none⟩ = some x ∧ w.frozen? ⟨b, 0, none⟩ = false ∧ w.frozen? ⟨b, 1, none⟩ = false ∧ w.frozen? ⟨b, 2, none⟩ = false := by
  simp [World.cell?, World.frozen?, h]
theorem wset3_1 {w : World} {b : Nat} {u v y x : Value} {t : TypeId} (h : w.heap[b]? = some (.cells #[u, v, y] t (0, 0))) : (w.setCell ⟨b, 1, none⟩ x).heap[b]? = some (.cells #[u, x, y] t (0, 0)) := by
  simpa using heap_setCell_same w b 1 #[u, v, y] t x h
theorem set3_2 {w : World} {b : Nat} {u v y x : Value} {t : TypeId} (h : w.heap[b]? = some (.cells #[u, v, y] t (0, 0))) : (w.setCell ⟨b, 2, none⟩ x).heap[b]? = some (.cells #[u, v, x] t (0, 0)) := by
  simpa using heap_setCell_same w b 2 #[u, v, y] t x h
theorem cells4 {w : World} {b : Nat} {u v x y : Value} {t : TypeId} (h : w.heap[b]? = some (.cells #[u, v, x, y] t (0, 0))) :
    w.cell? ⟨b, 0, none⟩ = some u ∧ w.cell? ⟨b, 1, none⟩ = some v ∧ w.cell? ⟨b, 2, none⟩ = some x ∧ w.cell? ⟨b, 3, none⟩ = some y := by
  simp [World.cell?, h]

/-- The types of blocks that a Writer, a Reader, the document's Reader turn. -/
def WT (t : TypeId) : Prop := t = 33 ∨ t = 5
def RT (t : TypeId) : Prop := t = 66
def XT (t : TypeId) : Prop := t = 44

/-- Bytes as cells. -/
def u8s (l : List UInt8) : List Value := l.map fun b => Value.int .u8 b.toNat
theorem u8s_len (l : List UInt8) : (u8s l).length = l.length := by simp [u8s]
theorem u8s_one (l : List UInt8) (n : Nat) (h : n < 256) : u8s l ++ [.int .u8 (n : Nat)] = u8s (l ++ [UInt8.ofNat n]) := by
  simp [u8s]; omega
theorem u8s_str (l m : List UInt8) : u8s l ++ Lib.strCells (bs m) = u8s (l ++ m) := by rw [bs_cells]; simp [u8s]

/-- A writer that has written l lies at block b. -/
structure WrAt (w : World) (base b : Nat) (l : List UInt8) : Prop where
  lo : base ≤ b
  sz : base ≤ w.heap.size
  mem : ∃ v, w.heap[b]? = some (.cells #[v] 33 (0, 0)) ∧ w.ownsRow base 5 1 v l.length (u8s l)
theorem WrAt.more {w w' : World} {base b : Nat} {l : List UInt8} (h : WrAt w base b l) (k : More w w') : WrAt w' base b l := by
  obtain ⟨v, hb, hv⟩ := h.mem
  exact ⟨h.lo, Nat.le_trans h.sz k.size, v, k.at hb, k.own hv⟩
theorem WrAt.new (w : World) : WrAt (w.alloc (.cells #[.slice none 0 0] 33)) w.heap.size w.heap.size [] :=
  ⟨Nat.le_refl _, by simp, _, heap_alloc_new _ _, World.ownsRow_nil _ _ _ _⟩

/-- A reader of l that stands at a and has the error E lies at block b. -/
structure RdAt (w : World) (base b : Nat) (l : List UInt8) (a E : Nat) : Prop where
  lo : base ≤ b
  sz : base ≤ w.heap.size
  le : a ≤ l.length
  len : l.length ≤ 100000000
  mem : w.heap[b]? = some (.cells #[.string (bs l), .int .i64 a, .int .i64 E] 66 (0, 0))
theorem RdAt.more {w w' : World} {base b a E : Nat} {l : List UInt8} (h : RdAt w base b l a E) (k : More w w') : RdAt w' base b l a E := ⟨h.lo, Nat.le_trans h.sz k.size, h.le, h.len, k.at h.mem⟩
theorem RdAt.goes {w : World} {base b a a' E : Nat} {l : List UInt8} (h : RdAt w base b l a E) (ha : a' ≤ l.length) : RdAt (w.setCell ⟨b, 1, none⟩ (.int .i64 a')) base b l a' E ∧ KeepsT RT base w (w.setCell ⟨b, 1, none⟩ (.int .i64 a')) :=
  ⟨⟨h.lo, by simpa using h.sz, ha, h.len, wset3_1 h.mem⟩, (KeepsT.refl RT base w).setCell (p := ⟨b, 1, none⟩) h.lo h.mem rfl _⟩
theorem RdAt.errs {w : World} {base b a E E' : Nat} {l : List UInt8} (h : RdAt w base b l a E) : RdAt (w.setCell ⟨b, 2, none⟩ (.int .i64 E')) base b l a E' ∧ KeepsT RT base w (w.setCell ⟨b, 2, none⟩ (.int .i64 E')) :=
  ⟨⟨h.lo, by simpa using h.sz, h.le, h.len, set3_2 h.mem⟩, (KeepsT.refl RT base w).setCell (p := ⟨b, 2, none⟩) h.lo h.mem rfl _⟩

/-- The document's reader that has l left and the error E lies at block x. -/
structure XAt (w : World) (base x : Nat) (l : List UInt8) (E : Nat) : Prop where
  lo : base ≤ x
  sz : base ≤ w.heap.size
  len : l.length ≤ 100000000
  mem : w.heap[x]? = some (.cells #[.string (bs l), .int .i64 E] 44 (0, 0))
theorem XAt.more {w w' : World} {base x E : Nat} {l : List UInt8} (h : XAt w base x l E) (k : More w w') : XAt w' base x l E := ⟨h.lo, Nat.le_trans h.sz k.size, h.len, k.at h.mem⟩
theorem XAt.goes {w : World} {base x E : Nat} {l l' : List UInt8} (h : XAt w base x l E) (hl : l'.length ≤ 100000000) : XAt (w.setCell ⟨x, 0, none⟩ (.string (bs l'))) base x l' E ∧ KeepsT XT base w (w.setCell ⟨x, 0, none⟩ (.string (bs l'))) :=
  ⟨⟨h.lo, by simpa using h.sz, hl, wset_0 h.mem⟩, (KeepsT.refl XT base w).setCell (p := ⟨x, 0, none⟩) h.lo h.mem rfl _⟩
theorem XAt.errs {w : World} {base x E E' : Nat} {l : List UInt8} (h : XAt w base x l E) : XAt (w.setCell ⟨x, 1, none⟩ (.int .i64 E')) base x l E' ∧ KeepsT XT base w (w.setCell ⟨x, 1, none⟩ (.int .i64 E')) :=
  ⟨⟨h.lo, by simpa using h.sz, h.len, wset_1 h.mem⟩, (KeepsT.refl XT base w).setCell (p := ⟨x, 1, none⟩) h.lo h.mem rfl _⟩
theorem KeepsT.rd {w w' : World} {base base' b a E : Nat} {l : List UInt8} (k : KeepsT XT base' w w') (h : RdAt w base b l a E) : RdAt w' base b l a E := ⟨h.lo, Nat.le_trans h.sz k.below.size, h.le, h.len, k.other _ _ _ _ (by unfold XT; decide) h.mem⟩
theorem KeepsT.x {w w' : World} {base base' x E : Nat} {l : List UInt8} (k : KeepsT RT base' w w') (h : XAt w base x l E) : XAt w' base x l E := ⟨h.lo, Nat.le_trans h.sz k.below.size, h.len, k.other _ _ _ _ (by unfold RT; decide) h.mem⟩

end Go.Proofs.YtbjgbigalfhnjaaGreatDoor

namespace Go.Proofs.YtbjgbigalfhnjaaGreatDoor
open Go.RowKit

set_option maxRecDepth 1000000 in
theorem rd_open (l : List UInt8) (hl : l.length ≤ 100000000) (w : World) : Calls Tryz.prog 9 #[.string (bs l)] w fun e w' => e = .returned (.pointer (some ⟨w.heap.size, 0, none⟩)) ∧ RdAt w' w.heap.size w.heap.size l 0 0 ∧ More w w' := by
  go_enter Tryz.func9, Tryz.ntmps9
  go_wp2
  go_ret
  exact ⟨rfl, ⟨Nat.le_refl _, by simp, Nat.zero_le _, hl, heap_alloc_new _ _⟩, More.alloc _ _⟩

theorem rd_err (base b a E : Nat) (l : List UInt8) (w : World) (h : RdAt w base b l a E) :
    Calls Tryz.prog 16 #[.pointer (some ⟨b, 0, none⟩)] w fun e w' => e = .returned (.int .i64 E) ∧ w' = w := by
  obtain ⟨_, _, c2, _⟩ := wcells3 h.mem
  clear h
  go_enter Tryz.func16, Tryz.ntmps16
  go_wp2
  go_ret
  exact ⟨rfl, rfl⟩

theorem no_err (w : World) : Calls Tryz.prog 16 #[.pointer none] w fun e w' => e = .returned (.int .i64 11) ∧ w' = w := by
  go_enter Tryz.func16, Tryz.ntmps16
  go_wp2
  go_ret
  exact ⟨rfl, rfl⟩

/-- What End tells. -/
def endE (l : List UInt8) (E : Nat) : Nat := if E = 0 ∧ l ≠ [] then 3 else E

set_option maxRecDepth 1000000 in
theorem rd_fail (base b a E F : Nat) (l : List UInt8) (w : World) (h : RdAt w base b l a E) :
    Calls Tryz.prog 27 #[.pointer (some ⟨b, 0, none⟩), .int .i64 F] w fun e w' => e = .returned (.tuple #[]) ∧ RdAt w' base b l a (if E = 0 then F else E) ∧ KeepsT RT base w w' := by
  obtain ⟨_, _, c2, _, _, z2⟩ := wcells3 h.mem
  by_cases h0 : E = 0
  · subst h0
    rw [if_pos rfl]
    have HH := Hid.mk (h.errs (E' := F))
    clear h
    go_enter Tryz.func27, Tryz.ntmps27
    go_wp2
    go_end0
    exact ⟨rfl, HH.out⟩
  · rw [if_neg h0]
    have HH := Hid.mk h
    have hne : ((E : Int) == 0) = false := by simp; omega
    clear h
    go_enter Tryz.func27, Tryz.ntmps27
    go_wp2
    go_end0
    exact ⟨rfl, HH.out, KeepsT.refl _ _ _⟩

theorem no_fail (F : Nat) (w : World) : Calls Tryz.prog 27 #[.pointer none, .int .i64 F] w fun e w' => e = .returned (.tuple #[]) ∧ w' = w := by
  go_enter Tryz.func27, Tryz.ntmps27
  go_wp2
  go_end0
  exact ⟨rfl, rfl⟩

end Go.Proofs.YtbjgbigalfhnjaaGreatDoor

namespace Go.Proofs.YtbjgbigalfhnjaaGreatDoor
open Go.RowKit

theorem or_u8 : ∀ c : Fin 256, bits .or .u8 (c.val : Int) 128 = ((c.val % 128 + 128 : Nat) : Int) := by decide +kernel
theorem low_or (v : Nat) : bits .or .u8 (IntKind.u8.wrap (v : Int)) 128 = ((v % 128 + 128 : Nat) : Int) := by
  have h : IntKind.u8.wrap (v : Int) = ((v % 256 : Nat) : Int) := by rw [IntKind.wrap_u8]; omega
  rw [h, or_u8 ⟨v % 256, Nat.mod_lt _ (by decide)⟩]
  simp only
  congr 2
  omega

theorem Tryz.info5 : (Tryz.prog.info? 5).map (fun i => (i.zero, i.size, i.bytes)) = some (some (.int .u8 0), 1, 1) := by kernel_rfl

/-- A byte has come behind. -/
theorem wr_grown {w w4 : World} {base b n : Nat} {l : List UInt8} {v v' : Value} {o : Obj} {xs : List Value} (h : WrAt w base b l) (hb : w.heap[b]? = some (.cells #[v] 33 (0, 0))) (hv : w.ownsRow base 5 1 v l.length (u8s l))
    (l' : List UInt8) (hn : n = l'.length) (hxs : xs = u8s l') (hown : w4.ownsRow base 5 1 v' n xs) (hg : (w.alloc o).grownBy w4 v.ownBlock) :
    w4.heap[b]? = some (.cells #[v] 33 (0, 0)) ∧ WrAt (w4.setCell ⟨b, 0, none⟩ v') base b l' ∧ KeepsT WT base w (w4.setCell ⟨b, 0, none⟩ v') := by
  subst hn hxs
  have ha : (w.alloc o).heap[b]? = some (.cells #[v] 33 (0, 0)) := (More.alloc w o).at hb
  have h4 : w4.heap[b]? = some (.cells #[v] 33 (0, 0)) := by
    rw [hg.block b (lt_of_block ha) (Ne.symm (wown_ne hb hv (by decide)))]; exact ha
  have hk : KeepsT WT base w w4 := (KeepsT.more (More.alloc w o) h.sz).grown hg (by simp; exact Nat.le_succ_of_le h.sz) ((More.alloc w o).own hv) (.inr rfl)
  refine ⟨h4, ⟨h.lo, ?_, _, set_one h4, ownsRow_setCell_other hown (wown_ne h4 hown (by decide)) _⟩, hk.setCell (p := ⟨b, 0, none⟩) h.lo h4 (.inl rfl) _⟩
  have := hk.below.size
  simp
  have := h.sz
  omega

/-- Likewise, with no block laid ahead of it. -/
theorem wr_grown0 {w w4 : World} {base b n : Nat} {l : List UInt8} {v v' : Value} {xs : List Value} (h : WrAt w base b l) (hb : w.heap[b]? = some (.cells #[v] 33 (0, 0))) (hv : w.ownsRow base 5 1 v l.length (u8s l))
    (l' : List UInt8) (hn : n = l'.length) (hxs : xs = u8s l') (hown : w4.ownsRow base 5 1 v' n xs) (hg : w.grownBy w4 v.ownBlock) :
    w4.heap[b]? = some (.cells #[v] 33 (0, 0)) ∧ WrAt (w4.setCell ⟨b, 0, none⟩ v') base b l' ∧ KeepsT WT base w (w4.setCell ⟨b, 0, none⟩ v') := by
  subst hn hxs
  have h4 : w4.heap[b]? = some (.cells #[v] 33 (0, 0)) := by
    rw [hg.block b (lt_of_block hb) (Ne.symm (wown_ne hb hv (by decide)))]; exact hb
  have hk : KeepsT WT base w w4 := (KeepsT.refl WT base w).grown hg h.sz hv (.inr rfl)
  refine ⟨h4, ⟨h.lo, ?_, _, set_one h4, ownsRow_setCell_other hown (wown_ne h4 hown (by decide)) _⟩, hk.setCell (p := ⟨b, 0, none⟩) h.lo h4 (.inl rfl) _⟩
  have := hk.below.size
  simp
  have := h.sz
  omega

set_option maxHeartbeats 800000 in
set_option maxRecDepth 1000000 in
theorem wr_num (base b v : Nat) (l : List UInt8) (w : World) (h : WrAt w base b l) (hl : l.length ≤ 10000000) (hv : v < 18446744073709551616) :
    Calls Tryz.prog 44 #[.pointer (some ⟨b, 0, none⟩), .int .u64 v] w fun e w' => e = .returned (.tuple #[]) ∧ WrAt w' base b (l ++ num v) ∧ KeepsT WT base w w' := by
  obtain ⟨i0, hi, hz0, hz1, hz2⟩ := info_parts Tryz.info5
  have HN := Hid.mk (num_ten hv)
  have H0 := Hid.mk h
  clear h
  go_enter Tryz.func44, Tryz.ntmps44
  go_wp2
  go_loopw [1] (fun x wr => ∃ (u : Nat) (l' : List UInt8), x = .int .u64 u ∧ u < 18446744073709551616 ∧ Hid (l' ++ num u = l ++ num v) ∧ Hid (WrAt wr base b l' ∧ KeepsT WT base w wr)) (fun x _ => (intOf x).toNat)
  case atStart => exact ⟨v, l, rfl, hv, Hid.mk rfl, Hid.mk ⟨H0.out, KeepsT.refl _ _ _⟩⟩
  case round =>
    obtain ⟨u, l', rfl, hu, HE, HR⟩ := hrel
    have hlen : l'.length ≤ 10000010 := by
      have h1 := congrArg List.length HE.out
      have := HN.out.1
      simp only [List.length_append] at h1
      omega
    obtain ⟨x, hb, hx⟩ := HR.out.1.mem
    obtain ⟨ao, cap, rfl⟩ := wshape_of hx
    obtain ⟨c0, z0⟩ := wcells1 hb
    have HB := Hid.mk (And.intro hb hx)
    have hor := low_or u
    have hwr : IntKind.u8.wrap (u : Int) = ((u % 256 : Nat) : Int) := by rw [IntKind.wrap_u8]; omega
    clear hb hx
    by_cases h128 : u < 128
    · have hwu : IntKind.u8.wrap (u : Int) = (u : Int) := by rw [hwr]; omega
      clear hor hwr
      go_wp2_with (at_builtin; refine wpList_append_own _ rfl (.tmp 26) (.tmp 29) 31 rfl base 5 i0 (.int .u8 0) 1 1 Tryz.underlying31 hi hz0 hz1 hz2 rfl (by decide) _ _ _ rfl (HB.out.2.alloc _) ⟨wr.heap.size, 0, none⟩ 1 1 [.int .u8 (u : Int)] rfl rfl ?c1 ?c2 ?c3 ?c4 ?c5 ?_)
      case c1 => intro j y hj; match j, hj with | 0, hj => simp at hj; subst hj; simp [Addr.add]
      case c2 => intro y hy; simp at hy; subst hy; rfl
      case c3 => unfold maxLen; omega
      case c4 => omega
      case c5 => have := HR.out.1.sz; simp; omega
      intro v' w4 hown hgrow _
      obtain ⟨h4, h5, h6⟩ := wr_grown HR.out.1 HB.out.1 HB.out.2 (l' ++ num u) (by rw [num_small h128]; simp) (by rw [num_small h128]; exact u8s_one _ _ (by omega)) hown hgrow
      obtain ⟨ao', cap', rfl⟩ := wshape_of hown
      obtain ⟨k0, y0⟩ := wcells1 h4
      have H5 := Hid.mk (And.intro h5 (HR.out.2.trans h6))
      clear h4 h5 h6 hown hgrow
      go_wp2
      go_end0
      refine ⟨rfl, ?_, H5.out.2⟩
      have := H5.out.1
      rw [HE.out] at this
      exact this
    · have hor2 : bits .or .u8 ((u : Int) % 256) 128 = (u : Int) % 128 + 128 := by rw [hwr] at hor; simpa using hor
      clear hwr
      go_wp2_with (at_builtin; refine wpList_append_own _ rfl (.tmp 14) (.tmp 18) 31 rfl base 5 i0 (.int .u8 0) 1 1 Tryz.underlying31 hi hz0 hz1 hz2 rfl (by decide) _ _ _ rfl (HB.out.2.alloc _) ⟨wr.heap.size, 0, none⟩ 1 1 [.int .u8 ((u % 128 + 128 : Nat) : Int)] rfl rfl ?d1 ?d2 ?d3 ?d4 ?d5 ?_)
      case d1 => intro j y hj; match j, hj with | 0, hj => simp at hj; subst hj; simp [Addr.add]
      case d2 => intro y hy; simp at hy; subst hy; rfl
      case d3 => unfold maxLen; omega
      case d4 => omega
      case d5 => have := HR.out.1.sz; simp; omega
      intro v' w4 hown hgrow _
      obtain ⟨h4, h5, h6⟩ := wr_grown HR.out.1 HB.out.1 HB.out.2 (l' ++ [UInt8.ofNat (u % 128 + 128)]) (by simp) (u8s_one _ _ (by omega)) hown hgrow
      obtain ⟨ao', cap', rfl⟩ := wshape_of hown
      obtain ⟨k0, y0⟩ := wcells1 h4
      have H5 := Hid.mk (And.intro h5 (HR.out.2.trans h6))
      clear h4 h5 h6 hown hgrow
      go_wp2
      have hdiv : (u : Int) / 128 = ((u / 128 : Nat) : Int) := by omega
      refine ⟨⟨u / 128, l' ++ [UInt8.ofNat (u % 128 + 128)], by rw [← hdiv], by omega, Hid.mk ?_, H5⟩, by simp [intOf]; omega⟩
      rw [← HE.out, num_great h128]
      simp

set_option maxRecDepth 1000000 in
theorem nil_num (v : Nat) (w : World) : Calls Tryz.prog 44 #[.pointer none, .int .u64 v] w fun e w' => e = .returned (.tuple #[]) ∧ w' = w := by
  go_enter Tryz.func44, Tryz.ntmps44
  go_wp2
  refine bodyPost_ret (results_none rfl _ _ _) rfl ?_
  exact ⟨rfl, rfl⟩

theorem xor_all (x : Nat) (h : x < 18446744073709551616) : bits .xor .u64 IntKind.u64.max (x : Int) = ((18446744073709551615 - x : Nat) : Int) := by
  have e : IntKind.u64.max = ((18446744073709551615 : Nat) : Int) := by decide
  rw [e, bits_xor_u64_nat _ _ (by decide) h]
  congr 1
  apply Nat.eq_of_testBit_eq
  intro i
  rw [Nat.testBit_xor, show (18446744073709551615 : Nat) = 2 ^ 64 - 1 by decide, Nat.testBit_two_pow_sub_one, show 2 ^ 64 - 1 - x = 2 ^ 64 - (x + 1) by omega, Nat.testBit_two_pow_sub_succ (by simpa using h)]
  by_cases hi : i < 64
  · simp [hi]
  · have : x.testBit i = false := Nat.testBit_lt_two_pow (Nat.lt_of_lt_of_le h (by rw [show (18446744073709551616 : Nat) = 2 ^ 64 by decide]; exact Nat.pow_le_pow_right (by decide) (by omega)))
    simp [hi, this]

set_option maxRecDepth 1000000 in
theorem wr_raw (base b : Nat) (l m : List UInt8) (w : World) (h : WrAt w base b l) (hl : l.length ≤ 100000000) (hm : m.length ≤ 100000000) :
    Calls Tryz.prog 43 #[.pointer (some ⟨b, 0, none⟩), .string (bs m)] w fun e w' => e = .returned (.tuple #[]) ∧ WrAt w' base b (l ++ m) ∧ KeepsT WT base w w' := by
  obtain ⟨i0, hi, hz0, hz1, hz2⟩ := info_parts Tryz.info5
  obtain ⟨x, hb, hx⟩ := h.mem
  obtain ⟨ao, cap, rfl⟩ := wshape_of hx
  obtain ⟨c0, z0⟩ := wcells1 hb
  have HB := Hid.mk (And.intro h (And.intro hb hx))
  have hsz : (bs m).size = m.length := bs_size m
  clear hb hx h
  go_enter Tryz.func43, Tryz.ntmps43
  go_wp2_with (at_builtin; refine Lib.wpList_append_own_string _ rfl (.tmp 10) (.tmp 11) 31 9 rfl base 5 i0 Tryz.underlying31 Tryz.underlying9 hi hz0 hz1 hz2 _ _ _ rfl HB.out.2.2 (bs m) rfl ?c3 ?c4 ?c5 ?_)
  case c3 => unfold maxLen; omega
  case c4 => omega
  case c5 => exact HB.out.1.sz
  intro v' w4 hown hgrow _
  obtain ⟨h4, h5, h6⟩ := wr_grown0 HB.out.1 HB.out.2.1 HB.out.2.2 (l ++ m) (by simp) (u8s_str _ _) hown hgrow
  obtain ⟨ao', cap', rfl⟩ := wshape_of hown
  obtain ⟨k0, y0⟩ := wcells1 h4
  have H5 := Hid.mk (And.intro h5 h6)
  clear h4 h5 h6 hown hgrow
  go_wp2
  go_end0
  exact ⟨rfl, H5.out⟩

theorem nil_raw (s : ByteArray) (w : World) : Calls Tryz.prog 43 #[.pointer none, .string s] w fun e w' => e = .returned (.tuple #[]) ∧ w' = w := by
  go_enter Tryz.func43, Tryz.ntmps43
  go_wp2
  refine bodyPost_ret (results_none rfl _ _ _) rfl ?_
  exact ⟨rfl, rfl⟩

set_option maxRecDepth 1000000 in
theorem wr_bytes (base b : Nat) (l : List UInt8) (w : World) (h : WrAt w base b l) : Calls Tryz.prog 10 #[.pointer (some ⟨b, 0, none⟩)] w fun e w' => e = .returned (.string (bs l)) ∧ w' = w := by
  obtain ⟨x, hb, hx⟩ := h.mem
  have hconv : (convert 31 9 x).run Tryz.prog w = .ok (.string (bs l)) w := by
    rcases hx.2 with ⟨rfl, h0⟩ | ⟨g, cap, cur, rfl, _, _, _⟩
    · obtain rfl : l = [] := List.eq_nil_of_length_eq_zero h0
      rw [run_convert_bytes_string w 31 9 5 none _ _ Tryz.underlying31 Tryz.underlying5 Tryz.underlying9]
      rfl
    · refine run_convert_bytes_back w 31 9 5 _ cap l Tryz.underlying31 Tryz.underlying5 Tryz.underlying9 (fun j hj => ?_)
      rw [Addr.add_lit, Nat.zero_add, hx.cellAt j (by omega)]
      simp [u8s, hj]
  obtain ⟨ao, cap, rfl⟩ := wshape_of hx
  obtain ⟨c0, z0⟩ := wcells1 hb
  clear h hb hx
  go_enter Tryz.func10, Tryz.ntmps10
  go_wp2
  go_ret
  exact ⟨rfl, rfl⟩

theorem nil_bytes (w : World) : Calls Tryz.prog 10 #[.pointer none] w fun e w' => e = .returned (.string (bs [])) ∧ w' = w := by
  go_enter Tryz.func10, Tryz.ntmps10
  go_wp2
  go_ret
  exact ⟨rfl, rfl⟩

end Go.Proofs.YtbjgbigalfhnjaaGreatDoor
