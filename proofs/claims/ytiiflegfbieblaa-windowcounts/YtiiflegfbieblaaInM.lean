/-
  intern: a table in memory.
-/
import Derived.Test.YtiiflegfbieblaaInB
namespace Go.Proofs.Ytiiflegfbieblaa
open Go.RowKit

theorem Try.infoInt : (Try.prog.info? 3).map (fun i => (i.zero, i.size, i.bytes)) = some (some (.int .i64 0), 1, 8) := by kernel_rfl
theorem Try.infoU64 : (Try.prog.info? 80).map (fun i => (i.zero, i.size, i.bytes)) = some (some (.int .u64 0), 1, 8) := by kernel_rfl
/-- Hashes as values; the slots' numbers as values. -/
def hvs (hs : List Nat) : List Value := hs.map fun (h : Nat) => .int .u64 h
def nums (f : Nat → Nat) (m : Nat) : List Value := (List.range m).map fun p => .int .i64 (f p)
theorem hvs_len (hs : List Nat) : (hvs hs).length = hs.length := by simp [hvs]
theorem hvs_get (hs : List Nat) {i : Nat} (h : i < hs.length) : (hvs hs)[i]? = some (.int .u64 (hs.getD i 0)) := by
  simp [hvs, List.getD, List.getElem?_eq_getElem h]
theorem hvs_snoc (hs : List Nat) (h : Nat) : hvs (hs ++ [h]) = hvs hs ++ [.int .u64 h] := by simp [hvs]
theorem nums_len (f : Nat → Nat) (m : Nat) : (nums f m).length = m := by simp [nums]
theorem nums_get (f : Nat → Nat) {m p : Nat} (h : p < m) : (nums f m)[p]? = some (.int .i64 (f p)) := by simp [nums, h]
theorem nums_set (f : Nat → Nat) {m p : Nat} (v : Nat) : (nums f m).set p (.int .i64 v) = nums (setF f p v) m := by
  apply List.ext_getElem?
  intro j
  by_cases hj : j < m
  · rw [nums_get _ hj, List.getElem?_set]
    by_cases e : p = j
    · subst e; simp [nums_len, hj, setF]
    · rw [if_neg e, nums_get _ hj, setF_other _ _ (fun h => e h.symm)]
  · rw [List.getElem?_eq_none (by rw [List.length_set, nums_len]; omega), List.getElem?_eq_none (by rw [nums_len]; omega)]

/-- A table's texts, hashes and slots in memory, D being its blocks. -/
structure Tb (w : World) (D : Nat → Prop) (b : Nat) (vk vh vd : Value) (ts : List (List UInt8)) (hs : List Nat) (m : Nat) (f : Nat → Nat) : Prop where
  box : w.heap[b]? = some (.cells #[vk, vh, vd] 86 (0, 0))
  keys : w.ownsRow 0 9 1 vk ts.length (strs ts)
  hashes : w.ownsRow 0 80 1 vh hs.length (hvs hs)
  held : w.ownsRow 0 3 1 vd m (nums f m)
  inB : D b
  inK : ∀ j, vk.ownBlock = some j → D j
  inH : ∀ j, vh.ownBlock = some j → D j
  inD : ∀ j, vd.ownBlock = some j → D j
  wi : ∀ k, D k → k < w.heap.size
variable {w w' : World} {D D' : Nat → Prop} {b m : Nat} {vk vh vd : Value} {ts : List (List UInt8)} {hs : List Nat} {f : Nat → Nat}

/-- From w to w' of the old blocks none has turned but such of the set. -/
structure Off (D : Nat → Prop) (w w' : World) : Prop where
  os : w'.os = w.os
  tape : w'.tape = w.tape
  output : w'.output = w.output
  size : w.heap.size ≤ w'.heap.size
  block : ∀ k, k < w.heap.size → ¬ D k → w'.heap[k]? = w.heap[k]?
theorem Off.of_more (h : More w w') : Off D w w' := ⟨h.os, h.tape, h.output, h.size, fun k hk _ => h.block k hk⟩
theorem Off.trans {w2 : World} (h : Off D w w') (k : Off D' w' w2) (hD : ∀ j, D' j → D j ∨ w.heap.size ≤ j) : Off D w w2 :=
  ⟨k.os.trans h.os, k.tape.trans h.tape, k.output.trans h.output, Nat.le_trans h.size k.size, fun i hi hn => (k.block i (Nat.lt_of_lt_of_le hi h.size) fun hc => (hD i hc).elim hn fun h => by omega).trans (h.block i hi hn)⟩
theorem Off.below {B : Nat} (h : Off D w w') (hB : B ≤ w.heap.size) (hD : ∀ j, D j → B ≤ j) : Below B w w' := ⟨h.os, h.tape, h.output, h.size, fun k hk => h.block k (by omega) fun hc => by have := hD k hc; omega⟩
theorem Off.own (h : Off D w w') {base : Nat} {e : TypeId} {size n : Nat} {v : Value} {xs : List Value} (hv : w.ownsRow base e size v n xs) (hn : ∀ j, v.ownBlock = some j → ¬ D j) : w'.ownsRow base e size v n xs :=
  ⟨hv.1, hv.2.imp id fun ⟨g, cap, cur, he, h1, hg, rest⟩ => ⟨g, cap, cur, he, h1, (h.block g (lt_of_block hg) (hn g (by rw [he]; rfl))).trans hg, rest⟩⟩
theorem Off.setCell (w : World) {p : Addr} (hp : D p.block) (v : Value) : Off D w (w.setCell p v) := ⟨rfl, rfl, rfl, (KeepsOthers.setCell w p v).size, fun _ _ hn => Below.heap_setCell _ _ _ _ (fun e => hn (e ▸ hp))⟩
theorem Off.drawn {j : Nat} (h : Off D (w.drewN j) w') : Off D w w' := ⟨h.os, h.tape, h.output, h.size, h.block⟩
theorem Off.stay {C : Nat → Prop} {w2 : World} (h : Off D w w') (k : Stay C w' w2) (hC : ∀ j, j < w.heap.size → C j) : Off D w w2 := ⟨k.os.trans h.os, k.tape.trans h.tape, k.output.trans h.output, Nat.le_trans h.size k.size, fun j hj hn => (k.block j (hC j hj)).trans (h.block j hj hn)⟩
theorem Off.wider {E : Nat → Prop} (h : Off D w w') (hE : ∀ k, D k → E k) : Off E w w' := ⟨h.os, h.tape, h.output, h.size, fun k hk hn => h.block k hk fun hc => hn (hE k hc)⟩

theorem More.trans' {w2 : World} (h : More w w') (k : Off D w' w2) (hD : ∀ j, D j → w.heap.size ≤ j) : More w w2 := Below.trans h (k.below (B := w.heap.size) h.size hD)

theorem Tb.more (h : Tb w D b vk vh vd ts hs m f) (k : More w w') : Tb w' D b vk vh vd ts hs m f :=
  ⟨k.at h.box, k.own h.keys, k.own h.hashes, k.own h.held, h.inB, h.inK, h.inH, h.inD, fun j hj => Nat.lt_of_lt_of_le (h.wi j hj) k.size⟩
theorem Tb.stay {C : Nat → Prop} (h : Tb w D b vk vh vd ts hs m f) (k : Stay C w w') (hC : ∀ j, D j → C j) : Tb w' D b vk vh vd ts hs m f :=
  ⟨(k.block b (hC b h.inB)).trans h.box, ⟨h.keys.1, h.keys.2.imp id fun ⟨g, cap, cur, hv, h1, hg, rest⟩ => ⟨g, cap, cur, hv, h1, (k.block g (hC g (h.inK g (by rw [hv]; rfl)))).trans hg, rest⟩⟩,
   ⟨h.hashes.1, h.hashes.2.imp id fun ⟨g, cap, cur, hv, h1, hg, rest⟩ => ⟨g, cap, cur, hv, h1, (k.block g (hC g (h.inH g (by rw [hv]; rfl)))).trans hg, rest⟩⟩,
   ⟨h.held.1, h.held.2.imp id fun ⟨g, cap, cur, hv, h1, hg, rest⟩ => ⟨g, cap, cur, hv, h1, (k.block g (hC g (h.inD g (by rw [hv]; rfl)))).trans hg, rest⟩⟩,
   h.inB, h.inK, h.inH, h.inD, fun j hj => Nat.lt_of_lt_of_le (h.wi j hj) k.size⟩
theorem Tb.wider (h : Tb w D b vk vh vd ts hs m f) (hD : ∀ j, D j → D' j) (hw : ∀ k, D' k → k < w.heap.size) : Tb w D' b vk vh vd ts hs m f :=
  ⟨h.box, h.keys, h.hashes, h.held, hD _ h.inB, fun j hj => hD _ (h.inK j hj), fun j hj => hD _ (h.inH j hj), fun j hj => hD _ (h.inD j hj), hw⟩
theorem row_form {e : TypeId} {v : Value} {n : Nat} {xs : List Value} (h : w.ownsRow 0 e 1 v n xs) (hn : 0 < n) : ∃ g cap, v = .slice (some ⟨g, 0, none⟩) n cap ∧ (∀ i, i < n → w.cell? ⟨g, i, none⟩ = xs[i]?) ∧ (∀ i, w.frozen? ⟨g, i, none⟩ = false) ∧ g < w.heap.size := by
  rcases h.2 with ⟨_, h0⟩ | ⟨g, cap, cur, rfl, hg, hh, _⟩
  · omega
  · exact ⟨g, cap, rfl, fun i hi => h.cellAt i (by omega), fun i => h.frozenAt i, (h.lt g rfl).2⟩
theorem Tb.key (h : Tb w D b vk vh vd ts hs m f) (hn : 0 < ts.length) : ∃ g cap, vk = .slice (some ⟨g, 0, none⟩) ts.length cap ∧ D g ∧ ∀ i, i < ts.length → w.cell? ⟨g, i, none⟩ = some (.string (bs (ts.getD i []))) := by
  obtain ⟨g, cap, rfl, h1, _⟩ := row_form h.keys hn
  exact ⟨g, cap, rfl, h.inK g rfl, fun i hi => by rw [h1 i hi, strs_get ts i hi]⟩
theorem Tb.hash (h : Tb w D b vk vh vd ts hs m f) (hn : 0 < hs.length) : ∃ g cap, vh = .slice (some ⟨g, 0, none⟩) hs.length cap ∧ D g ∧ ∀ i, i < hs.length → w.cell? ⟨g, i, none⟩ = some (.int .u64 (hs.getD i 0)) := by
  obtain ⟨g, cap, rfl, h1, _⟩ := row_form h.hashes hn
  exact ⟨g, cap, rfl, h.inH g rfl, fun i hi => by rw [h1 i hi, hvs_get hs hi]⟩
theorem Tb.slot (h : Tb w D b vk vh vd ts hs m f) (hn : 0 < m) : ∃ g cap, vd = .slice (some ⟨g, 0, none⟩) m cap ∧ D g ∧ (∀ p, p < m → w.cell? ⟨g, p, none⟩ = some (.int .i64 (f p))) ∧ ∀ p, w.frozen? ⟨g, p, none⟩ = false := by
  obtain ⟨g, cap, rfl, h1, h2, _⟩ := row_form h.held hn
  exact ⟨g, cap, rfl, h.inD g rfl, fun i hi => by rw [h1 i hi, nums_get f hi], h2⟩
theorem Tb.cells (h : Tb w D b vk vh vd ts hs m f) : w.cell? ⟨b, 0, none⟩ = some vk ∧ w.cell? ⟨b, 1, none⟩ = some vh ∧ w.cell? ⟨b, 2, none⟩ = some vd ∧ w.frozen? ⟨b, 0, none⟩ = false ∧ w.frozen? ⟨b, 1, none⟩ = false ∧ w.frozen? ⟨b, 2, none⟩ = false := wcells3 h.box

/-- One slot is set. -/
theorem Tb.set {g cap : Nat} (h : Tb w D b vk vh (.slice (some ⟨g, 0, none⟩) m cap) ts hs m f) (p v : Nat) : Tb (w.setCell ⟨g, p, none⟩ (.int .i64 v)) D b vk vh (.slice (some ⟨g, 0, none⟩) m cap) ts hs m (setF f p v) := by
  have hst := h.held.stored p (.int .i64 v)
  have hg : ∃ cs, w.heap[g]? = some (.cells cs 3 (0, 0)) := by
    rcases h.held.2 with ⟨h0, _⟩ | ⟨g', cap', cur, he, _, hh, _⟩
    · cases h0
    · cases he; exact ⟨_, hh⟩
  obtain ⟨cs, hcs⟩ := hg
  refine ⟨wset_off h.box (fun e => ?_), ownsRow_setCell_other h.keys (fun e => ?_) _, ownsRow_setCell_other h.hashes (fun e => ?_) _, by rw [← nums_set]; exact hst.1, h.inB, h.inK, h.inH, h.inD, fun k hk => by rw [World.size_setCell]; exact h.wi k hk⟩
  · have e : b = g := e
    subst e
    rw [h.box] at hcs; simp at hcs
  · exact wown_ne hcs h.keys (by decide) e
  · exact wown_ne hcs h.hashes (by decide) e
end Go.Proofs.Ytiiflegfbieblaa
