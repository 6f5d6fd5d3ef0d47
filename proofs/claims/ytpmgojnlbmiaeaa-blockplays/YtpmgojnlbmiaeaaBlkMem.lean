/-
  block: a store in memory.
-/
import Derived.Test.YtpmgojnlbmiaeaaTokMem
import Derived.Test.YtpmgojnlbmiaeaaBlkMath
namespace Go.Proofs.Ytpmgojnlbmiaeaa
open Go.RowKit

theorem Try.infoInt : (Try.prog.info? 3).map (fun i => (i.zero, i.size, i.bytes)) = some (some (.int .i64 0), 1, 8) := by kernel_rfl
theorem Try.infoU8 : (Try.prog.info? 5).map (fun i => (i.zero, i.size, i.bytes)) = some (some (.int .u8 0), 1, 1) := by kernel_rfl
theorem Try.infoBlk : (Try.prog.info? 59).map (fun i => (i.zero, i.size, i.bytes)) = some (some (.agg #[.bool false, .slice none 0 0, .int .i64 0]), 3, 40) := by kernel_rfl

/-- Numbers as values. -/
def nmv (F : List Nat) : List Value := F.map fun (x : Nat) => .int .i64 x
theorem nmv_len (F : List Nat) : (nmv F).length = F.length := by simp [nmv]
theorem nmv_get (F : List Nat) {i : Nat} (h : i < F.length) : (nmv F)[i]? = some (.int .i64 (F.getD i 0)) := by
  simp [nmv, List.getD, List.getElem?_eq_getElem h]
theorem nmv_snoc (F : List Nat) (x : Nat) : nmv F ++ [.int .i64 x] = nmv (F ++ [x]) := by simp [nmv]
theorem nmv_set (F : List Nat) (i x : Nat) : (nmv F).set i (.int .i64 x) = nmv (F.set i x) := by simp [nmv, List.map_set]
theorem nmv_take (F : List Nat) (m : Nat) : (nmv F).take m = nmv (F.take m) := by simp [nmv, List.map_take]
/-- Bytes as values. -/
def u8v (l : List UInt8) : List Value := l.map fun b => .int .u8 b.toNat
theorem u8v_len (l : List UInt8) : (u8v l).length = l.length := by simp [u8v]

/-- Blocks as cells: three each. -/
def blkc (tk : Nat → Bool) (tx : Nat → List UInt8) (vb : Nat → Value) (i : Nat) : Value := if i % 3 = 0 then .bool (tk (i / 3)) else if i % 3 = 1 then vb (i / 3) else .int .i64 (tx (i / 3)).length
def blks (tk : Nat → Bool) (tx : Nat → List UInt8) (vb : Nat → Value) (N : Nat) : List Value := (List.range (N * 3)).map (blkc tk tx vb)
section
variable {tk : Nat → Bool} {tx : Nat → List UInt8} {vb : Nat → Value} {N k : Nat}
theorem blks_len : (blks tk tx vb N).length = N * 3 := by simp [blks]
theorem blks_get {i : Nat} (h : i < N * 3) : (blks tk tx vb N)[i]? = some (blkc tk tx vb i) := by simp [blks, h]
theorem blks_none {i : Nat} (h : ¬ i < N * 3) : (blks tk tx vb N)[i]? = none := List.getElem?_eq_none (by rw [blks_len]; omega)
theorem blkc_0 : blkc tk tx vb (k * 3) = .bool (tk k) := by
  unfold blkc; rw [if_pos (by omega), show k * 3 / 3 = k by omega]
theorem blkc_1 : blkc tk tx vb (k * 3 + 1) = vb k := by
  unfold blkc; rw [if_neg (by omega), if_pos (by omega), show (k * 3 + 1) / 3 = k by omega]
theorem blkc_2 : blkc tk tx vb (k * 3 + 2) = .int .i64 (tx k).length := by
  unfold blkc; rw [if_neg (by omega), if_neg (by omega), show (k * 3 + 2) / 3 = k by omega]
theorem blks_set {tk' : Nat → Bool} {tx' : Nat → List UInt8} {vb' : Nat → Value} {p : Nat} {v : Value} (hp : p < N * 3) (h1 : blkc tk' tx' vb' p = v) (h2 : ∀ i, i ≠ p → blkc tk' tx' vb' i = blkc tk tx vb i) : (blks tk tx vb N).set p v = blks tk' tx' vb' N := by
  apply List.ext_getElem?
  intro i
  rw [List.getElem?_set]
  by_cases e : p = i
  · subst e
    rw [if_pos rfl, if_pos (by rw [blks_len]; exact hp), blks_get hp, h1]
  · rw [if_neg e]
    by_cases hi : i < N * 3
    · rw [blks_get hi, blks_get hi, h2 i fun h => e h.symm]
    · rw [blks_none hi, blks_none hi]
theorem blks_tk (hk : k < N) (t : Bool) : (blks tk tx vb N).set (k * 3) (.bool t) = blks (upd tk k t) tx vb N := by
  refine blks_set (by omega) (by rw [blkc_0, upd_at]) fun i hi => ?_
  unfold blkc
  by_cases h : i % 3 = 0
  · rw [if_pos h, if_pos h, upd_ne _ _ (by omega)]
  · rw [if_neg h, if_neg h]
theorem blks_vb (hk : k < N) (v : Value) : (blks tk tx vb N).set (k * 3 + 1) v = blks tk tx (upd vb k v) N := by
  refine blks_set (by omega) (by rw [blkc_1, upd_at]) fun i hi => ?_
  unfold blkc
  by_cases h : i % 3 = 1
  · rw [if_pos h, if_pos h, upd_ne _ _ (by omega)]
  · rw [if_neg h, if_neg h]
theorem blks_tx (hk : k < N) (t : List UInt8) : (blks tk tx vb N).set (k * 3 + 2) (.int .i64 t.length) = blks tk (upd tx k t) vb N := by
  refine blks_set (by omega) (by rw [blkc_2, upd_at]) fun i hi => ?_
  unfold blkc
  by_cases h : i % 3 = 0
  · rw [if_pos h, if_pos h]
  · by_cases h1 : i % 3 = 1
    · rw [if_neg h, if_neg h, if_pos h1, if_pos h1]
    · rw [if_neg h, if_neg h, if_neg h1, if_neg h1, upd_ne _ _ (by omega)]
theorem blks_snoc (b : Bool) (v : Value) (t : List UInt8) : blks tk tx vb N ++ [.bool b, v, .int .i64 t.length] = blks (upd tk N b) (upd tx N t) (upd vb N v) (N + 1) := by
  have e0 : blkc (upd tk N b) (upd tx N t) (upd vb N v) (N * 3) = .bool b := by rw [blkc_0, upd_at]
  have e1 : blkc (upd tk N b) (upd tx N t) (upd vb N v) (N * 3 + 1) = v := by rw [blkc_1, upd_at]
  have e2 : blkc (upd tk N b) (upd tx N t) (upd vb N v) (N * 3 + 2) = .int .i64 t.length := by rw [blkc_2, upd_at]
  unfold blks
  rw [show (N + 1) * 3 = N * 3 + 1 + 1 + 1 by omega, List.range_succ, List.range_succ, List.range_succ]
  simp only [List.map_append, List.map_cons, List.map_nil, e0, e1, e2, List.append_assoc, List.cons_append, List.nil_append]
  congr 1
  apply List.map_congr_left
  intro i hi
  have hi := List.mem_range.1 hi
  unfold blkc
  rw [upd_ne _ _ (show i / 3 ≠ N by omega), upd_ne _ _ (show i / 3 ≠ N by omega), upd_ne _ _ (show i / 3 ≠ N by omega)]
end

theorem shape_any {w : World} {base : Nat} {v : Value} {s n e : Nat} {xs : List Value} (h : w.ownsRow base e s v n xs) : ∃ ao cap, v = .slice ao n cap := by
  rcases h.2 with ⟨rfl, rfl⟩ | ⟨g, cap, _, rfl, _⟩
  · exact ⟨_, _, rfl⟩
  · exact ⟨_, _, rfl⟩
theorem shape_some {w : World} {base : Nat} {v : Value} {s n e : Nat} {xs : List Value} (h : w.ownsRow base e s v n xs) (h0 : 0 < n) : ∃ g cap cur, v = .slice (some ⟨g, 0, none⟩) n cap ∧ n ≤ cap ∧ cap ≤ maxLen ∧ base ≤ g ∧ w.heap[g]? = some (.cells cur e (0, 0)) := by
  rcases h.2 with ⟨rfl, rfl⟩ | ⟨g, cap, cur, rfl, h1, h2, h3, h4, _⟩
  · omega
  · exact ⟨g, cap, cur, rfl, h3, h4, h1, h2⟩
theorem own_at {w : World} {base g cap : Nat} {s n e : Nat} {xs : List Value} (h : w.ownsRow base e s (.slice (some ⟨g, 0, none⟩) n cap) n xs) : ∃ cur, w.heap[g]? = some (.cells cur e (0, 0)) ∧ base ≤ g ∧ n ≤ cap ∧ cap ≤ maxLen := by
  rcases h.2 with ⟨h', _⟩ | ⟨g', cap', cur, h', h1, h2, h3, h4, _⟩
  · simp at h'
  · simp only [Value.slice.injEq, Option.some.injEq, Addr.mk.injEq, and_true, true_and] at h'
    obtain ⟨rfl, rfl⟩ := h'
    exact ⟨cur, h2, h1, h3, h4⟩
theorem own_off {w : World} {base b n s : Nat} {v : Value} {xs : List Value} {cs : Array Value} {z : Nat × Nat} {t e : TypeId} (hown : w.ownsRow base e s v n xs) (hb : w.heap[b]? = some (.cells cs t z)) (hte : t ≠ e) : v.ownBlock ≠ some b := by
  intro h
  rcases hown.2 with ⟨rfl, _⟩ | ⟨g, cap, cur, rfl, _, hh, _⟩
  · simp [Value.ownBlock] at h
  · simp [Value.ownBlock] at h
    subst h
    rw [hb] at hh
    simp at hh
    exact hte hh.2.1
theorem grown_set (w : World) (g i : Nat) (v : Value) : w.grownBy (w.setCell ⟨g, i, none⟩ v) (some g) :=
  ⟨rfl, rfl, rfl, by simp, fun k _ hk => Below.heap_setCell _ _ _ _ (fun e => hk (by simp [e]))⟩
theorem KeepsT.turned {T : TypeId → Prop} {base : Nat} {a w w' : World} (h : KeepsT T base a w) {g : Nat} (hg : w.grownBy w' (some g)) (hlo : base ≤ g) {cs : Array Value} {t : TypeId} {z : Nat × Nat} (hb : w.heap[g]? = some (.cells cs t z)) (ht : T t) : KeepsT T base a w' :=
  ⟨⟨hg.os.trans h.below.os, hg.tape.trans h.below.tape, hg.output.trans h.below.output, Nat.le_trans h.below.size hg.size, fun k hk => by
    by_cases hkw : k < w.heap.size
    · rw [hg.block k hkw (fun e => by cases e; omega)]; exact h.below.block k hk
    · have := lt_of_block hb; omega⟩,
   fun k cs' t' z' hT x => by
    have hx := h.other k cs' t' z' hT x
    rw [hg.block k (lt_of_block hx) (fun e => ?_)]
    · exact hx
    · cases e
      rw [hb] at hx
      simp at hx
      exact hT (by rw [← hx.2.1]; exact ht), fun k x hk => by
    have hx := h.marks k x hk
    rw [hg.block k (lt_of_block hx) (fun e => ?_)]
    · exact hx
    · cases e
      rw [hb] at hx
      simp at hx⟩
theorem wcells4 {w : World} {b : Nat} {u v x y : Value} {t : TypeId} (h : w.heap[b]? = some (.cells #[u, v, x, y] t (0, 0))) :
    w.cell? ⟨b, 0, none⟩ = some u ∧ w.cell? ⟨b, 1, none⟩ = some v ∧ w.cell? ⟨b, 2, none⟩ = some x ∧ w.cell? ⟨b, 3, none⟩ = some y ∧ w.frozen? ⟨b, 2, none⟩ = false ∧ w.frozen? ⟨b, 3, none⟩ = false := by
  simp [World.cell?, World.frozen?, h]
theorem wset4_2 {w : World} {b : Nat} {u v x y z : Value} {t : TypeId} (h : w.heap[b]? = some (.cells #[u, v, x, y] t (0, 0))) : (w.setCell ⟨b, 2, none⟩ z).heap[b]? = some (.cells #[u, v, z, y] t (0, 0)) := by
  simpa using heap_setCell_same w b 2 #[u, v, x, y] t z h
theorem wset4_3 {w : World} {b : Nat} {u v x y z : Value} {t : TypeId} (h : w.heap[b]? = some (.cells #[u, v, x, y] t (0, 0))) : (w.setCell ⟨b, 3, none⟩ z).heap[b]? = some (.cells #[u, v, x, z] t (0, 0)) := by
  simpa using heap_setCell_same w b 3 #[u, v, x, y] t z h

/-- The types of the blocks that a store turns. -/
def BT (t : TypeId) : Prop := t = 52 ∨ t = 59 ∨ t = 3 ∨ t = 5
/-- A block's bytes: the text, and whatever behind it. -/
def Byt (w : World) (base : Nat) (v : Value) (t : List UInt8) : Prop := ∃ m xs, t.length ≤ m ∧ w.ownsRow base 5 1 v m xs ∧ xs.take t.length = u8v t
theorem Byt.nil (w : World) (base : Nat) : Byt w base (.slice none 0 0) [] := ⟨0, [], Nat.le_refl _, World.ownsRow_nil _ _ _ _, rfl⟩
theorem Byt.kept {w w' : World} {base : Nat} {v : Value} {t : List UInt8} {row : Option Nat} (h : Byt w base v t) (hg : w.grownBy w' row) (hne : v.ownBlock = none ∨ v.ownBlock ≠ row) : Byt w' base v t := by
  obtain ⟨m, xs, h1, h2, h3⟩ := h
  exact ⟨m, xs, h1, h2.kept hg hne, h3⟩
theorem Byt.off {w : World} {base b : Nat} {v : Value} {t : List UInt8} {cs : Array Value} {z : Nat × Nat} {e : TypeId} (h : Byt w base v t) (hb : w.heap[b]? = some (.cells cs e z)) (he : e ≠ 5) : v.ownBlock ≠ some b := by
  obtain ⟨m, xs, h1, h2, h3⟩ := h
  exact own_off h2 hb he

/-- A store in memory. -/
structure Sto (w : World) (base b : Nat) (size most : Int) (N : Nat) (vo vf : Value) (tk : Nat → Bool) (tx : Nat → List UInt8) (vb : Nat → Value) (F : List Nat) : Prop where
  lo : base ≤ b
  sz : base ≤ w.heap.size
  box : w.heap[b]? = some (.cells #[.int .i64 size, .int .i64 most, vo, vf] 52 (0, 0))
  row : w.ownsRow base 59 3 vo N (blks tk tx vb N)
  free : w.ownsRow base 3 1 vf F.length (nmv F)
  byt : ∀ k, k < N → Byt w base (vb k) (tx k)
  apart : ∀ j k, j < N → k < N → ∀ g, (vb j).ownBlock = some g → (vb k).ownBlock = some g → j = k
section
variable {w w' : World} {base b N : Nat} {size most : Int} {vo vf : Value} {tk : Nat → Bool} {tx : Nat → List UInt8} {vb : Nat → Value} {F : List Nat}
theorem Sto.more (h : Sto w base b size most N vo vf tk tx vb F) (k : More w w') : Sto w' base b size most N vo vf tk tx vb F :=
  have hg : w.grownBy w' none := ⟨k.os, k.tape, k.output, k.size, fun i hi _ => k.block i hi⟩
  have hn : ∀ v : Value, v.ownBlock = none ∨ v.ownBlock ≠ none := fun v => by cases v.ownBlock <;> simp
  ⟨h.lo, Nat.le_trans h.sz k.size, k.at h.box, k.own h.row, k.own h.free, fun i hi => (h.byt i hi).kept hg (hn _), h.apart⟩
theorem Sto.drawn (h : Sto w base b size most N vo vf tk tx vb F) (m : Nat) : Sto (w.drewN m) base b size most N vo vf tk tx vb F := h.more (More.drewN w m)
theorem Sto.lower {base' : Nat} (h : Sto w base b size most N vo vf tk tx vb F) (hb : base' ≤ base) : Sto w base' b size most N vo vf tk tx vb F :=
  have lo : ∀ {e s n : Nat} {v : Value} {xs : List Value}, w.ownsRow base e s v n xs → w.ownsRow base' e s v n xs := fun h => ⟨h.1, h.2.imp id fun ⟨g, cap, cur, hv, h1, hr⟩ => ⟨g, cap, cur, hv, Nat.le_trans hb h1, hr⟩⟩
  ⟨Nat.le_trans hb h.lo, Nat.le_trans hb h.sz, h.box, lo h.row, lo h.free, fun i hi => by
    obtain ⟨m, xs, h1, h2, h3⟩ := h.byt i hi
    exact ⟨m, xs, h1, lo h2, h3⟩, h.apart⟩
/-- A block's cells. -/
theorem Sto.cell {g cap k : Nat} (h : Sto w base b size most N (.slice (some ⟨g, 0, none⟩) N cap) vf tk tx vb F) (hk : k < N) :
    w.cell? ⟨g, k * 3, none⟩ = some (.bool (tk k)) ∧ w.cell? ⟨g, k * 3 + 1, none⟩ = some (vb k) ∧ w.cell? ⟨g, k * 3 + 2, none⟩ = some (.int .i64 (tx k).length) ∧ ∀ i, w.frozen? ⟨g, i, none⟩ = false := by
  refine ⟨?_, ?_, ?_, fun i => h.row.frozenAt i⟩
  · rw [h.row.cellAt _ (by omega), blks_get (by omega), blkc_0]
  · rw [h.row.cellAt _ (by omega), blks_get (by omega), blkc_1]
  · rw [h.row.cellAt _ (by omega), blks_get (by omega), blkc_2]
/-- The blocks' row turns, in one block of the three, or whole. -/
theorem Sto.rowed {g cap : Nat} {tk' : Nat → Bool} {vb' : Nat → Value} (h : Sto w base b size most N (.slice (some ⟨g, 0, none⟩) N cap) vf tk tx vb F) (hg : w.grownBy w' (some g)) (hr : w'.ownsRow base 59 3 (.slice (some ⟨g, 0, none⟩) N cap) N (blks tk' tx vb' N)) (hv : ∀ k, k < N → vb' k = vb k) :
    Sto w' base b size most N (.slice (some ⟨g, 0, none⟩) N cap) vf tk' tx vb' F ∧ KeepsT BT base w w' := by
  obtain ⟨cur, hgc, hgl, _⟩ := own_at h.row
  have hbg : b ≠ g := fun e => by
    have := h.box
    rw [e, hgc] at this
    simp at this
  refine ⟨⟨h.lo, Nat.le_trans h.sz hg.size, (hg.block b (lt_of_block h.box) (by simpa using hbg)).trans h.box, hr, h.free.kept hg (.inr (own_off h.free hgc (by decide))), fun k hk => ?_, fun j k hj hk => ?_⟩, (KeepsT.refl _ _ _).turned hg hgl hgc (.inr (.inl rfl))⟩
  · rw [hv k hk]
    exact (h.byt k hk).kept hg (.inr ((h.byt k hk).off hgc (by decide)))
  · rw [hv j hj, hv k hk]; exact h.apart j k hj hk
theorem Sto.setTk {g cap k : Nat} (h : Sto w base b size most N (.slice (some ⟨g, 0, none⟩) N cap) vf tk tx vb F) (hk : k < N) (t : Bool) :
    Sto (w.setCell ⟨g, k * 3, none⟩ (.bool t)) base b size most N (.slice (some ⟨g, 0, none⟩) N cap) vf (upd tk k t) tx vb F ∧ KeepsT BT base w (w.setCell ⟨g, k * 3, none⟩ (.bool t)) :=
  h.rowed (grown_set _ _ _ _) (by rw [← blks_tk hk]; exact (h.row.stored _ _).1) fun _ _ => rfl
/-- A block gets other bytes: a row that is none of the others', its text empty. -/
theorem Sto.setVb {g cap k m : Nat} {v : Value} {xs : List Value} (h : Sto w base b size most N (.slice (some ⟨g, 0, none⟩) N cap) vf tk tx vb F) (hk : k < N) (ht : tx k = []) (hv : w.ownsRow base 5 1 v m xs) (hnew : ∀ j, j < N → ∀ q, v.ownBlock = some q → (vb j).ownBlock ≠ some q) :
    Sto (w.setCell ⟨g, k * 3 + 1, none⟩ v) base b size most N (.slice (some ⟨g, 0, none⟩) N cap) vf tk tx (upd vb k v) F ∧ KeepsT BT base w (w.setCell ⟨g, k * 3 + 1, none⟩ v) := by
  obtain ⟨cur, hgc, hgl, _⟩ := own_at h.row
  have hg := grown_set w g (k * 3 + 1) v
  have hbg : b ≠ g := fun e => by
    have := h.box
    rw [e, hgc] at this
    simp at this
  refine ⟨⟨h.lo, Nat.le_trans h.sz hg.size, (hg.block b (lt_of_block h.box) (by simpa using hbg)).trans h.box, by rw [← blks_vb hk]; exact (h.row.stored _ _).1, h.free.kept hg (.inr (own_off h.free hgc (by decide))), fun j hj => ?_, fun i j hi hj q h1 h2 => ?_⟩, (KeepsT.refl _ _ _).turned hg hgl hgc (.inr (.inl rfl))⟩
  · by_cases e : j = k
    · rw [e, upd_at, ht]
      exact ⟨m, xs, Nat.zero_le _, hv.kept hg (.inr (own_off hv hgc (by decide))), rfl⟩
    · rw [upd_ne _ _ e]
      exact (h.byt j hj).kept hg (.inr ((h.byt j hj).off hgc (by decide)))
  · by_cases ei : i = k
    · by_cases ej : j = k
      · rw [ei, ej]
      · rw [ei, upd_at] at h1
        rw [upd_ne _ _ ej] at h2
        exact absurd h2 (hnew j hj q h1)
    · rw [upd_ne _ _ ei] at h1
      by_cases ej : j = k
      · rw [ej, upd_at] at h2
        exact absurd h1 (hnew i hi q h2)
      · rw [upd_ne _ _ ej] at h2
        exact h.apart i j hi hj q h1 h2
/-- A block's bytes turn, and how many of them are used. -/
theorem Sto.bytes {g cap k m : Nat} {t : List UInt8} {xs : List Value} (h : Sto w base b size most N (.slice (some ⟨g, 0, none⟩) N cap) vf tk tx vb F) (hk : k < N) (hg : w.grownBy w' (vb k).ownBlock) (hm : t.length ≤ m) (hr : w'.ownsRow base 5 1 (vb k) m xs) (hx : xs.take t.length = u8v t) :
    Sto (w'.setCell ⟨g, k * 3 + 2, none⟩ (.int .i64 t.length)) base b size most N (.slice (some ⟨g, 0, none⟩) N cap) vf tk (upd tx k t) vb F ∧ KeepsT BT base w (w'.setCell ⟨g, k * 3 + 2, none⟩ (.int .i64 t.length)) := by
  obtain ⟨cur, hgc, hgl, _⟩ := own_at h.row
  have hbk := h.byt k hk
  have hrow := h.row.kept hg (.inr fun e => hbk.off hgc (by decide) e.symm)
  have hbox := (hg.block b (lt_of_block h.box) fun e => hbk.off h.box (by decide) e.symm).trans h.box
  have hfree : w'.ownsRow base 3 1 vf F.length (nmv F) := by
    obtain ⟨m1, xs1, _, h1, _⟩ := hbk
    rcases h.free.2 with ⟨hv, _⟩ | ⟨q, c, cu, hv, _, hq, _⟩
    · exact h.free.kept hg (.inl (by rw [hv]; rfl))
    · refine h.free.kept hg (.inr fun e => own_off h1 hq (by decide) ?_)
      rw [← e, hv]; rfl
  have hbyt : ∀ j, j < N → j ≠ k → Byt w' base (vb j) (tx j) := fun j hj hne => by
    refine (h.byt j hj).kept hg ?_
    cases e : (vb j).ownBlock with
    | none => exact .inl rfl
    | some q => exact .inr fun e2 => hne (h.apart j k hj hk q e e2.symm)
  have hK : KeepsT BT base w w' := by
    obtain ⟨m1, xs1, _, h1, _⟩ := hbk
    rcases h1.2 with ⟨hv, _⟩ | ⟨q, c, cu, hv, hql, hq, _⟩
    · rw [hv] at hg
      exact KeepsT.more ⟨hg.os, hg.tape, hg.output, hg.size, fun i hi => hg.block i hi (by simp [Value.ownBlock])⟩ h.sz
    · rw [hv] at hg
      exact (KeepsT.refl _ _ _).turned hg hql hq (.inr (.inr (.inr rfl)))
  obtain ⟨cur2, hgc2, _, _⟩ := own_at hrow
  have hg2 := grown_set w' g (k * 3 + 2) (.int .i64 t.length)
  have hbg : b ≠ g := fun e => by
    have := hbox
    rw [e, hgc2] at this
    simp at this
  refine ⟨⟨h.lo, Nat.le_trans h.sz (Nat.le_trans hg.size hg2.size), (hg2.block b (lt_of_block hbox) (by simpa using hbg)).trans hbox, by rw [← blks_tx hk]; exact (hrow.stored _ _).1, hfree.kept hg2 (.inr (own_off hfree hgc2 (by decide))), fun j hj => ?_, h.apart⟩, hK.turned hg2 hgl hgc2 (.inr (.inl rfl))⟩
  by_cases e : j = k
  · rw [e, upd_at]
    exact ⟨m, xs, hm, hr.kept hg2 (.inr (own_off hr hgc2 (by decide))), hx⟩
  · rw [upd_ne _ _ e]
    exact (hbyt j hj e).kept hg2 (.inr ((hbyt j hj e).off hgc2 (by decide)))
/-- The row of the free ones is another one. -/
theorem Sto.freed {vf' : Value} {G : List Nat} (h : Sto w base b size most N vo vf tk tx vb F) (hg : w.grownBy w' vf.ownBlock) (hr : w'.ownsRow base 3 1 vf' G.length (nmv G)) :
    Sto (w'.setCell ⟨b, 3, none⟩ vf') base b size most N vo vf' tk tx vb G ∧ KeepsT BT base w (w'.setCell ⟨b, 3, none⟩ vf') := by
  have hne : ∀ {e s n : Nat} {v : Value} {xs : List Value}, w.ownsRow base e s v n xs → e ≠ 3 → v.ownBlock = none ∨ v.ownBlock ≠ vf.ownBlock := fun {e s n v xs} hv he => by
    rcases h.free.2 with ⟨hx, _⟩ | ⟨q, c, cu, hx, _, hq, _⟩
    · rw [hx]; cases v.ownBlock <;> simp [Value.ownBlock]
    · exact .inr (by rw [hx]; exact own_off hv hq fun e' => he e'.symm)
  have hbox := (hg.block b (lt_of_block h.box) fun e => own_off h.free h.box (by decide) e.symm).trans h.box
  have hrow := h.row.kept hg (hne h.row (by decide))
  have hbyt : ∀ j, j < N → Byt w' base (vb j) (tx j) := fun j hj => by
    obtain ⟨m, xs, h1, h2, h3⟩ := h.byt j hj
    exact ⟨m, xs, h1, h2.kept hg (hne h2 (by decide)), h3⟩
  have hK : KeepsT BT base w w' := by
    rcases h.free.2 with ⟨hv, _⟩ | ⟨q, c, cu, hv, hql, hq, _⟩
    · rw [hv] at hg
      exact KeepsT.more ⟨hg.os, hg.tape, hg.output, hg.size, fun i hi => hg.block i hi (by simp [Value.ownBlock])⟩ h.sz
    · rw [hv] at hg
      exact (KeepsT.refl _ _ _).turned hg hql hq (.inr (.inr (.inl rfl)))
  have hg2 := grown_set w' b 3 vf'
  exact ⟨⟨h.lo, Nat.le_trans h.sz (Nat.le_trans hg.size hg2.size), wset4_3 hbox, hrow.kept hg2 (.inr (own_off hrow hbox (by decide))), hr.kept hg2 (.inr (own_off hr hbox (by decide))), fun j hj => (hbyt j hj).kept hg2 (.inr ((hbyt j hj).off hbox (by decide))), h.apart⟩, hK.turned hg2 h.lo hbox (.inl rfl)⟩
/-- Two of the free ones are turned. -/
theorem Sto.swapped {g cap i j : Nat} (h : Sto w base b size most N vo (.slice (some ⟨g, 0, none⟩) F.length cap) tk tx vb F) (hw : w'.ownsRow base 3 1 (.slice (some ⟨g, 0, none⟩) F.length cap) F.length (nmv (sw F i j))) (hg : w.grownBy w' (some g)) :
    Sto w' base b size most N vo (.slice (some ⟨g, 0, none⟩) F.length cap) tk tx vb (sw F i j) ∧ KeepsT BT base w w' := by
  obtain ⟨cur, hgc, hgl, _⟩ := own_at h.free
  have hbg : b ≠ g := fun e => by
    have := h.box
    rw [e, hgc] at this
    simp at this
  exact ⟨⟨h.lo, Nat.le_trans h.sz hg.size, (hg.block b (lt_of_block h.box) (by simpa using hbg)).trans h.box, h.row.kept hg (.inr (own_off h.row hgc (by decide))), by rw [sw_len]; exact hw, fun k hk => (h.byt k hk).kept hg (.inr ((h.byt k hk).off hgc (by decide))), h.apart⟩, (KeepsT.refl _ _ _).turned hg hgl hgc (.inr (.inr (.inl rfl)))⟩
/-- A block more. -/
theorem Sto.grown {vo' : Value} (h : Sto w base b size most N vo vf tk tx vb F) (hg : w.grownBy w' vo.ownBlock) (hr : w'.ownsRow base 59 3 vo' (N + 1) (blks tk tx vb N ++ [.bool false, .slice none 0 0, .int .i64 0])) :
    Sto (w'.setCell ⟨b, 2, none⟩ vo') base b size most (N + 1) vo' vf (upd tk N false) (upd tx N []) (upd vb N (.slice none 0 0)) F ∧ KeepsT BT base w (w'.setCell ⟨b, 2, none⟩ vo') := by
  have hne : ∀ {e s n : Nat} {v : Value} {xs : List Value}, w.ownsRow base e s v n xs → e ≠ 59 → v.ownBlock = none ∨ v.ownBlock ≠ vo.ownBlock := fun {e s n v xs} hv he => by
    rcases h.row.2 with ⟨hx, _⟩ | ⟨q, c, cu, hx, _, hq, _⟩
    · rw [hx]; cases v.ownBlock <;> simp [Value.ownBlock]
    · exact .inr (by rw [hx]; exact own_off hv hq fun e' => he e'.symm)
  have hbox := (hg.block b (lt_of_block h.box) fun e => own_off h.row h.box (by decide) e.symm).trans h.box
  have hfree := h.free.kept hg (hne h.free (by decide))
  have hbyt : ∀ j, j < N → Byt w' base (vb j) (tx j) := fun j hj => by
    obtain ⟨m, xs, h1, h2, h3⟩ := h.byt j hj
    exact ⟨m, xs, h1, h2.kept hg (hne h2 (by decide)), h3⟩
  have hK : KeepsT BT base w w' := by
    rcases h.row.2 with ⟨hv, _⟩ | ⟨q, c, cu, hv, hql, hq, _⟩
    · rw [hv] at hg
      exact KeepsT.more ⟨hg.os, hg.tape, hg.output, hg.size, fun i hi => hg.block i hi (by simp [Value.ownBlock])⟩ h.sz
    · rw [hv] at hg
      exact (KeepsT.refl _ _ _).turned hg hql hq (.inr (.inl rfl))
  have hg2 := grown_set w' b 2 vo'
  have hr' : w'.ownsRow base 59 3 vo' (N + 1) (blks (upd tk N false) (upd tx N []) (upd vb N (.slice none 0 0)) (N + 1)) := by
    rw [← blks_snoc]; exact hr
  refine ⟨⟨h.lo, Nat.le_trans h.sz (Nat.le_trans hg.size hg2.size), wset4_2 hbox, hr'.kept hg2 (.inr (own_off hr' hbox (by decide))), hfree.kept hg2 (.inr (own_off hfree hbox (by decide))), fun j hj => ?_, fun i j hi hj q h1 h2 => ?_⟩, hK.turned hg2 h.lo hbox (.inl rfl)⟩
  · by_cases e : j = N
    · rw [e, upd_at, upd_at]; exact Byt.nil _ _
    · rw [upd_ne _ _ e, upd_ne _ _ e]
      exact (hbyt j (by omega)).kept hg2 (.inr ((hbyt j (by omega)).off hbox (by decide)))
  · by_cases ei : i = N
    · rw [ei, upd_at] at h1; simp [Value.ownBlock] at h1
    · by_cases ej : j = N
      · rw [ej, upd_at] at h2; simp [Value.ownBlock] at h2
      · rw [upd_ne _ _ ei] at h1
        rw [upd_ne _ _ ej] at h2
        exact h.apart i j (by omega) (by omega) q h1 h2
end
end Go.Proofs.Ytpmgojnlbmiaeaa
