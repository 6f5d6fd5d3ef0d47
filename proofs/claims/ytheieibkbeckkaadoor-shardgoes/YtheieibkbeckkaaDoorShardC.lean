/-
  shard: New.
-/
import Derived.Test.YtheieibkbeckkaaDoorShardB
import Derived.Deep.AppendLies
import Derived.Deep.RegionLaw
namespace Go.Proofs.YtheieibkbeckkaaDoor
open Go.RowKit

/-- What lies from 'base' on, as long as these blocks are as they were. -/
theorem own_range {w w' : World} {base n : Nat} {e : TypeId} {size : Nat} {v : Value} {xs : List Value} (h : w.ownsRow base e size v n xs) (hr : ∀ b, base ≤ b → b < w.heap.size → w'.heap[b]? = w.heap[b]?) : w'.ownsRow base e size v n xs := by
  refine ⟨h.1, ?_⟩
  rcases h.2 with h2 | ⟨g, cap, cur, hv, hg, hh, r⟩
  · exact .inl h2
  · exact .inr ⟨g, cap, cur, hv, hg, by rw [hr g hg (lt_of_block hh)]; exact hh, r⟩
theorem RowAt.range {w w' : World} {base b V n : Nat} (h : RowAt w base b V n) (hr : ∀ b, base ≤ b → b < w.heap.size → w'.heap[b]? = w.heap[b]?) : RowAt w' base b V n := by
  obtain ⟨v, hb, hown⟩ := h.mem
  exact ⟨h.lo, h.fit, h.len, v, by rw [hr b h.lo (lt_of_block hb)]; exact hb, own_range hown hr⟩
theorem PackAt.range {w w' : World} {base p V d n : Nat} (h : PackAt w base p V d n) (hr : ∀ b, base ≤ b → b < w.heap.size → w'.heap[b]? = w.heap[b]?) : PackAt w' base p V d n := by
  obtain ⟨b, hp, hrow⟩ := h.mem
  exact ⟨h.lo, h.wid, h.num, b, by rw [hr p h.lo (lt_of_block hp)]; exact hp, hrow.range hr⟩
theorem SDirAt.range {w w' : World} {base d V n : Nat} (h : SDirAt w base d V n) (hr : ∀ b, base ≤ b → b < w.heap.size → w'.heap[b]? = w.heap[b]?) : SDirAt w' base d V n := by
  obtain ⟨v, m, hd, hv, hm⟩ := h.mem
  exact ⟨h.fit, h.len, h.lo, v, m, by rw [hr d h.lo (lt_of_block hd)]; exact hd, own_range hv hr, own_range hm hr⟩
theorem SeqAt.range {w w' : World} {base s : Nat} {f : Nat → Nat} {n : Nat} (h : SeqAt w base s f n) (hr : ∀ b, base ≤ b → b < w.heap.size → w'.heap[b]? = w.heap[b]?) (hs : w'.heap[s]? = w.heap[s]?) : SeqAt w' base s f n := by
  obtain ⟨p, d, h0, hp, hd⟩ := h.mem
  exact ⟨h.climbs, h.num, p, d, by rw [hs]; exact h0, hp.range hr, hd.range hr⟩

/-- The cells of K values. -/
def vals (f : Nat → Value) (K : Nat) : List Value := (List.range K).map f
theorem vals_len (f : Nat → Value) (K : Nat) : (vals f K).length = K := by simp [vals]
theorem vals_get (f : Nat → Value) (K i : Nat) (h : i < K) : (vals f K)[i]? = some (f i) := by simp [vals, h]
theorem vals_congr {f g : Nat → Value} {K : Nat} (h : ∀ i, i < K → f i = g i) : vals f K = vals g K := by
  unfold vals
  apply List.map_congr_left
  intro i hi
  rw [h i (by simpa using hi)]
theorem vals_succ (f : Nat → Value) (x : Value) (K : Nat) : vals f K ++ [x] = vals (fun i => if i = K then x else f i) (K + 1) := by
  rw [show vals (fun i => if i = K then x else f i) (K + 1) = vals (fun i => if i = K then x else f i) K ++ [x] by simp [vals, List.range_succ]]
  congr 1
  exact vals_congr fun i hi => (if_neg (by omega)).symm

/-- The sequence of n numbers lies at block q, from block 'base' on. -/
structure ShAt (w : World) (base q : Nat) (f : Nat → Nat) (n : Nat) : Prop where
  climbs : Climbs f n
  num : n ≤ 1000
  mem : ∃ s vp pv, w.heap[q]? = some (.cells #[.int .i64 n, .pointer (some ⟨s, 0, none⟩), vp] 44 (0, 0)) ∧ SeqAt w base s (frs f) (prts n) ∧
    w.ownsRow base 46 1 vp (prts n) (vals pv (prts n)) ∧ ∀ k, k < prts n → PartAt w base (pv k) (prt f k) (prtn n k)
theorem ShAt.more {w w' : World} {base q : Nat} {f : Nat → Nat} {n : Nat} (h : ShAt w base q f n) (k : More w w') : ShAt w' base q f n := by
  obtain ⟨s, vp, pv, hq, hs, hv, hp⟩ := h.mem
  exact ⟨h.climbs, h.num, s, vp, pv, by rw [k.block q (lt_of_block hq)]; exact hq, hs.more k, More.own hv k, fun j hj => (hp j hj).more k⟩

/-- Behind some rounds of New: so many first numbers, so many parts. -/
structure NewAt (w wr : World) (q kf kp : Nat) (vf : Value) (f : Nat → Nat) (n : Nat) : Prop where
  below : Below w.heap.size w wr
  lo : w.heap.size ≤ q
  fst : wr.ownsRow w.heap.size 3 1 vf kf (ints (frs f) kf)
  mem : ∃ vp pv, wr.heap[q]? = some (.cells #[.int .i64 n, .pointer none, vp] 44 (0, 0)) ∧ wr.ownsRow w.heap.size 46 1 vp kp (vals pv kp) ∧
    ∃ B : Nat → Prop, (∀ b, B b → b < wr.heap.size ∧ vf.ownBlock ≠ some b ∧ vp.ownBlock ≠ some b ∧ b ≠ q) ∧ ∀ w', (∀ b, B b → w'.heap[b]? = wr.heap[b]?) → ∀ j, j < kp → PartAt w' w.heap.size (pv j) (prt f j) (prtn n j)

theorem cells3' {w : World} {b : Nat} {u v x : Value} {t : TypeId} (h : w.heap[b]? = some (.cells #[u, v, x] t (0, 0))) : w.frozen? ⟨b, 1, none⟩ = false ∧ w.frozen? ⟨b, 2, none⟩ = false := by
  simp [World.frozen?, h]
theorem set3_2 {w : World} {b : Nat} {u v x y : Value} {t : TypeId} (h : w.heap[b]? = some (.cells #[u, v, x] t (0, 0))) : (w.setCell ⟨b, 2, none⟩ y).heap[b]? = some (.cells #[u, v, y] t (0, 0)) := by
  simpa using heap_setCell_same w b 2 #[u, v, x] t y h

/-- A first number more. -/
theorem NewAt.first {w wr w2 : World} {q k g cap : Nat} {vf : Value} {f : Nat → Nat} {n : Nat} {o : Obj} (h : NewAt w wr q k k vf f n) (hg : (wr.alloc o).grownBy w2 vf.ownBlock)
    (hown : w2.ownsRow w.heap.size 3 1 (.slice (some ⟨g, 0, none⟩) (k + 1) cap) (k + 1) (ints (frs f) (k + 1))) (hat : vf.ownBlock = some g ∨ g = wr.heap.size + 1) : NewAt w w2 q (k + 1) k (.slice (some ⟨g, 0, none⟩) (k + 1) cap) f n := by
  obtain ⟨vp, pv, hq, hv, B, hB, hP⟩ := h.mem
  have hlt := lt_of_block hq
  have hsz : wr.heap.size < (wr.alloc o).heap.size := by simp
  have ha : ∀ b, b < wr.heap.size → vf.ownBlock ≠ some b → w2.heap[b]? = wr.heap[b]? := fun b hb hne => by
    rw [hg.block b (Nat.lt_trans hb hsz) (Ne.symm hne), Below.heap_alloc _ _ _ hb]
  have h4 : w2.heap[q]? = some (.cells #[.int .i64 n, .pointer none, vp] 44 (0, 0)) := by
    rw [ha q hlt (own_ne hq h.fst (by decide))]; exact hq
  have hv4 := (hv.alloc o).kept hg (own_apart hv h.fst (by decide))
  refine ⟨(h.below.alloc h.below.size o).grown hg (Nat.le_trans h.below.size (Nat.le_of_lt hsz)) (fun k hk => (h.fst.lt k hk).1), h.lo, hown, vp, pv, h4, hv4, B, fun b hb => ?_, fun w' hw' => hP w' fun b hb => ?_⟩
  · obtain ⟨b1, b2, b3, b4⟩ := hB b hb
    refine ⟨Nat.lt_of_lt_of_le (Nat.lt_trans b1 hsz) hg.size, ?_, b3, b4⟩
    simp only [Value.ownBlock, ne_eq, Option.some.injEq]
    rintro rfl
    rcases hat with e | e
    · exact b2 e
    · omega
  · rw [hw' b hb, ha b (hB b hb).1 (hB b hb).2.1]

/-- A part more. -/
theorem NewAt.part {w w2 w3 w4 : World} {q k g cap : Nat} {vf vp : Value} {pv : Nat → Value} {pv0 : Value} {f : Nat → Nat} {n : Nat} {o : Obj} (h : NewAt w w2 q (k + 1) k vf f n) (hm : More w2 w3) (hp : PartAt w3 w2.heap.size pv0 (prt f k) (prtn n k))
    (hq : w2.heap[q]? = some (.cells #[.int .i64 n, .pointer none, vp] 44 (0, 0))) (hv : w2.ownsRow w.heap.size 46 1 vp k (vals pv k))
    (hrest : ∃ B : Nat → Prop, (∀ b, B b → b < w2.heap.size ∧ vf.ownBlock ≠ some b ∧ vp.ownBlock ≠ some b ∧ b ≠ q) ∧ ∀ w', (∀ b, B b → w'.heap[b]? = w2.heap[b]?) → ∀ j, j < k → PartAt w' w.heap.size (pv j) (prt f j) (prtn n j))
    (hg : (w3.alloc o).grownBy w4 vp.ownBlock) (hown : w4.ownsRow w.heap.size 46 1 (.slice (some ⟨g, 0, none⟩) (k + 1) cap) (k + 1) (vals pv k ++ [pv0])) (hat : vp.ownBlock = some g ∨ g = w3.heap.size + 1) :
    w4.heap[q]? = some (.cells #[.int .i64 n, .pointer none, vp] 44 (0, 0)) ∧ NewAt w (w4.setCell ⟨q, 2, none⟩ (.slice (some ⟨g, 0, none⟩) (k + 1) cap)) q (k + 1) (k + 1) vf f n := by
  obtain ⟨B, hB, hP⟩ := hrest
  have hlt := lt_of_block hq
  have hlt3 := Nat.lt_of_lt_of_le hlt hm.size
  have hsz : w3.heap.size < (w3.alloc o).heap.size := by simp
  have hq3 : w3.heap[q]? = some (.cells #[.int .i64 n, .pointer none, vp] 44 (0, 0)) := by rw [hm.block q hlt]; exact hq
  have hv3 := More.own hv hm
  have hf3 := More.own h.fst hm
  have ha : ∀ b, b < w3.heap.size → vp.ownBlock ≠ some b → w4.heap[b]? = w3.heap[b]? := fun b hb hne => by
    rw [hg.block b (Nat.lt_trans hb hsz) (Ne.symm hne), Below.heap_alloc _ _ _ hb]
  have h4 : w4.heap[q]? = some (.cells #[.int .i64 n, .pointer none, vp] 44 (0, 0)) := by
    rw [ha q hlt3 (own_ne hq3 hv3 (by decide))]; exact hq3
  have hf4 := (hf3.alloc o).kept hg (own_apart hf3 hv3 (by decide))
  have hb3 : Below w.heap.size w w3 := Below.trans h.below (hm.mono h.below.size)
  have hb4 : Below w.heap.size w w4 := (hb3.alloc hb3.size o).grown hg (Nat.le_trans hb3.size (Nat.le_of_lt hsz)) (fun k hk => (hv3.lt k hk).1)
  refine ⟨h4, hb4.setCell (p := ⟨q, 2, none⟩) h.lo _, h.lo, ownsRow_setCell_other hf4 (own_ne h4 hf4 (by decide)) _, _, (fun i => if i = k then pv0 else pv i), set3_2 h4, ?_, ?_⟩
  · rw [← vals_succ]
    exact ownsRow_setCell_other hown (own_ne h4 hown (by decide)) _
  · have hgne : ∀ b, b < w3.heap.size → vp.ownBlock ≠ some b → Value.ownBlock (.slice (some ⟨g, 0, none⟩) (k + 1) cap) ≠ some b := fun b hb hne => by
      simp only [Value.ownBlock, ne_eq, Option.some.injEq]
      rintro rfl
      rcases hat with e | e
      · exact hne e
      · omega
    refine ⟨fun b => B b ∨ (w2.heap.size ≤ b ∧ b < w3.heap.size) ∨ (∃ cs z, w3.heap[b]? = some (.cells cs 58 z)), fun b hb => ?_, fun w' hw' j hj => ?_⟩
    · have hall : b < w3.heap.size ∧ vf.ownBlock ≠ some b ∧ vp.ownBlock ≠ some b ∧ b ≠ q := by
        rcases hb with hb | ⟨h1, h2⟩ | ⟨cs, z, hb⟩
        · obtain ⟨b1, b2, b3, b4⟩ := hB b hb
          exact ⟨Nat.lt_of_lt_of_le b1 hm.size, b2, b3, b4⟩
        · exact ⟨h2, fun e => by have := (h.fst.lt b e).2; omega, fun e => by have := (hv.lt b e).2; omega, by omega⟩
        · refine ⟨lt_of_block hb, own_ne hb hf3 (by decide), own_ne hb hv3 (by decide), ?_⟩
          rintro rfl
          rw [hq3] at hb
          simp at hb
      refine ⟨?_, hall.2.1, hgne b hall.1 hall.2.2.1, hall.2.2.2⟩
      have h1 := ((Below.refl 0 w4).setCell (p := ⟨q, 2, none⟩) (Nat.zero_le _) (.slice (some ⟨g, 0, none⟩) (k + 1) cap)).size
      have h2 := hg.size
      omega
    · have key : ∀ b, b < w3.heap.size → vp.ownBlock ≠ some b → b ≠ q → (w4.setCell ⟨q, 2, none⟩ (.slice (some ⟨g, 0, none⟩) (k + 1) cap)).heap[b]? = w3.heap[b]? := fun b h1 h2 h3 => by
        rw [Below.heap_setCell _ _ _ _ h3]; exact ha b h1 h2
      show PartAt w' w.heap.size (if j = k then pv0 else pv j) (prt f j) (prtn n j)
      by_cases hjk : j = k
      · subst hjk
        rw [if_pos rfl]
        rcases hp with h1 | h1 | ⟨h1, s, hs, hsq⟩
        · exact .inl h1
        · exact .inr (.inl h1)
        · refine .inr (.inr ⟨h1, s, hs, (SeqAt.range hsq (fun b hb1 hb2 => ?_) ?_).lower h.below.size⟩)
          · rw [hw' b (.inr (.inl ⟨hb1, hb2⟩))]
            exact key b hb2 (fun e => by have := (hv.lt b e).2; omega) (by omega)
          · obtain ⟨p, d, hs0, _⟩ := hsq.mem
            rw [hw' s (.inr (.inr ⟨_, _, hs0⟩))]
            refine key s (lt_of_block hs0) (own_ne hs0 hv3 (by decide)) ?_
            rintro rfl
            rw [hq3] at hs0
            simp at hs0
      · rw [if_neg hjk]
        refine hP w' (fun b hb => ?_) j (by omega)
        obtain ⟨b1, b2, b3, b4⟩ := hB b hb
        rw [hw' b (.inl hb), key b (Nat.lt_of_lt_of_le b1 hm.size) b3 b4, hm.block b b1]

/-- The first numbers are kept as a sequence: the sequence is made. -/
theorem NewAt.done {w wr w5 : World} {q s K : Nat} {vf : Value} {f : Nat → Nat} {n : Nat} (h : NewAt w wr q K K vf f n) (hK : K = prts n) (hC : Climbs f n) (hn : n ≤ 1000) (hs : SeqAt w5 wr.heap.size s (frs f) K) (hm : More wr w5) :
    ShAt (w5.setCell ⟨q, 1, none⟩ (.pointer (some ⟨s, 0, none⟩))) w.heap.size q f n ∧ Below w.heap.size w (w5.setCell ⟨q, 1, none⟩ (.pointer (some ⟨s, 0, none⟩))) := by
  subst hK
  obtain ⟨vp, pv, hq, hv, B, hB, hP⟩ := h.mem
  have hlt := lt_of_block hq
  have hq5 : w5.heap[q]? = some (.cells #[.int .i64 n, .pointer none, vp] 44 (0, 0)) := by rw [hm.block q hlt]; exact hq
  have hv5 := More.own hv hm
  refine ⟨⟨hC, hn, s, vp, pv, set3_1 hq5, ?_, ownsRow_setCell_other hv5 (own_ne hq5 hv5 (by decide)) _, hP _ fun b hb => ?_⟩, (Below.trans h.below (hm.mono h.below.size)).setCell (p := ⟨q, 1, none⟩) h.lo _⟩
  · refine (SeqAt.range hs (fun b hb1 hb2 => Below.heap_setCell _ _ _ _ (by show b ≠ q; omega)) (Below.heap_setCell _ _ _ _ ?_)).lower h.below.size
    obtain ⟨p, d, hs0, _⟩ := hs.mem
    show s ≠ q
    rintro rfl
    rw [hq5] at hs0
    simp at hs0
  · obtain ⟨b1, b2, b3, b4⟩ := hB b hb
    rw [Below.heap_setCell _ _ _ _ (by exact b4), hm.block b b1]

end Go.Proofs.YtheieibkbeckkaaDoor
