/-
  A row in memory: two cells (its words and how many bits), the words a row of cells of the call's own.
  bitrow's Add: bits come behind one another.
  bitrow's word, Cut, Bit, Ones, Next, Words and Same: what a row tells.
  bitrow's Same: have two rows the same bits?
  bitrow's Of: the row of some words, or why there is none.
-/
import Derived.Test.YtheieibkbeckkaaDoorRows
import Derived.Test.YtheieibkbeckkaaDoorPartA
import Derived.WalkKit
import Derived.ProofKit
import Derived.Lib.Walk
import Derived.OneCell
import Derived.BigQuiet
import Derived.Deep.Light
import Derived.Lib.ItoaNum
import Derived.Deep.RegionWith
namespace Go.Proofs.YtheieibkbeckkaaDoor
open Go.RowKit

/-- The cells of K words. -/
def u64s (f : Nat → Nat) (K : Nat) : List Value := (List.range K).map fun i => Value.int .u64 (f i : Nat)
theorem u64s_len (f : Nat → Nat) (K : Nat) : (u64s f K).length = K := by simp [u64s]
theorem u64s_get (f : Nat → Nat) (K i : Nat) (h : i < K) : (u64s f K)[i]? = some (.int .u64 (f i : Nat)) := by simp [u64s, h]
theorem u64s_congr {f g : Nat → Nat} {K : Nat} (h : ∀ i, i < K → f i = g i) : u64s f K = u64s g K := by
  unfold u64s
  apply List.map_congr_left
  intro i hi
  rw [h i (by simpa using hi)]

/-- A row of n bits, the number V, lies at block b, from block 'base' on. -/
structure RowAt (w : World) (base b V n : Nat) : Prop where
  lo : base ≤ b
  fit : V < 2 ^ n
  len : n ≤ 1099511627776
  mem : ∃ v, w.heap[b]? = some (.cells #[v, .int .i64 n] 88 (0, 0)) ∧ w.ownsRow base 66 1 v (nw n) (u64s (wd V) (nw n))

theorem cells2 {w : World} {b : Nat} {u v : Value} {t : TypeId} (h : w.heap[b]? = some (.cells #[u, v] t (0, 0))) :
    w.cell? ⟨b, 0, none⟩ = some u ∧ w.cell? ⟨b, 1, none⟩ = some v ∧ w.frozen? ⟨b, 0, none⟩ = false ∧ w.frozen? ⟨b, 1, none⟩ = false := by
  simp [World.cell?, World.frozen?, h]

theorem set_0 {w : World} {b : Nat} {u v x : Value} {t : TypeId} (h : w.heap[b]? = some (.cells #[u, v] t (0, 0))) : (w.setCell ⟨b, 0, none⟩ x).heap[b]? = some (.cells #[x, v] t (0, 0)) := by
  simpa using heap_setCell_same w b 0 #[u, v] t x h
theorem set_1 {w : World} {b : Nat} {u v x : Value} {t : TypeId} (h : w.heap[b]? = some (.cells #[u, v] t (0, 0))) : (w.setCell ⟨b, 1, none⟩ x).heap[b]? = some (.cells #[u, x] t (0, 0)) := by
  simpa using heap_setCell_same w b 1 #[u, v] t x h
theorem set_off {w : World} {b : Nat} {a : Addr} {x : Value} {o : Obj} (h : w.heap[b]? = some o) (hne : b ≠ a.block) : (w.setCell a x).heap[b]? = some o := by
  rw [heap_setCell_other w a b x hne]; exact h

/-- From w to w' nothing below 'base' has turned, and no block of bools. -/
structure Keeps (base : Nat) (w w' : World) : Prop where
  below : Below base w w'
  bools : ∀ (k : Nat) (cs : Array Value) (z : Nat × Nat), w.heap[k]? = some (Obj.cells cs 4 z) → w'.heap[k]? = some (Obj.cells cs 4 z)

theorem Keeps.refl (base : Nat) (w : World) : Keeps base w w := ⟨Below.refl _ _, fun _ _ _ h => h⟩
theorem Keeps.trans {base : Nat} {a b c : World} (h : Keeps base a b) (k : Keeps base b c) : Keeps base a c := ⟨h.below.trans k.below, fun _ _ _ x => k.bools _ _ _ (h.bools _ _ _ x)⟩
theorem Keeps.drew {base : Nat} {a w : World} (h : Keeps base a w) : Keeps base a w.drew := ⟨h.below.drew, h.bools⟩
theorem Keeps.drewN {base : Nat} {a w : World} (h : Keeps base a w) (m : Nat) : Keeps base a (w.drewN m) := ⟨⟨h.below.os, h.below.tape, h.below.output, h.below.size, h.below.block⟩, h.bools⟩
theorem Keeps.alloc {base : Nat} {a w : World} (h : Keeps base a w) (hB : base ≤ w.heap.size) (o : Obj) : Keeps base a (w.alloc o) :=
  ⟨h.below.alloc hB o, fun k cs z x => by
    have hx := h.bools k cs z x
    rw [Below.heap_alloc _ _ _ (lt_of_block hx)]; exact hx⟩
theorem Keeps.setCell {base : Nat} {a w : World} (h : Keeps base a w) {p : Addr} (hp : base ≤ p.block) {cs : Array Value} {t : TypeId} {z : Nat × Nat} (hb : w.heap[p.block]? = some (.cells cs t z)) (ht : t ≠ 4) (u : Value) : Keeps base a (w.setCell p u) :=
  ⟨h.below.setCell hp u, fun k cs' z' x => by
    have hx := h.bools k cs' z' x
    refine set_off hx fun e => ?_
    rw [← e, hx] at hb
    simp at hb
    exact ht hb.2.1.symm⟩
theorem Keeps.grown {base : Nat} {a w w' : World} {v : Value} {n : Nat} {xs : List Value} {t : TypeId} (h : Keeps base a w) (hg : w.grownBy w' v.ownBlock) (hB : base ≤ w.heap.size) (hown : w.ownsRow base t 1 v n xs) (ht : t ≠ 4) : Keeps base a w' :=
  ⟨h.below.grown hg hB (fun k hk => (hown.lt k hk).1), fun k cs' z' x => by
    have hx := h.bools k cs' z' x
    rw [hg.block k (lt_of_block hx) (fun e => ?_)]
    · exact hx
    · rcases hown.2 with ⟨rfl, _⟩ | ⟨g, cap, cur, rfl, _, hh, _⟩
      · simp [Value.ownBlock] at e
      · simp [Value.ownBlock] at e
        subst e
        rw [hx] at hh
        simp at hh
        exact ht hh.2.1.symm⟩

/-- Likewise, and of all blocks that were there those in S alone have turned. -/
structure KeepsO (base : Nat) (S : Nat → Prop) (w w' : World) : Prop extends Keeps base w w' where
  only : ∀ k, k < w.heap.size → ¬ S k → w'.heap[k]? = w.heap[k]?

theorem KeepsO.refl (base : Nat) (S : Nat → Prop) (w : World) : KeepsO base S w w := ⟨Keeps.refl _ _, fun _ _ _ => rfl⟩
theorem KeepsO.drew {base : Nat} {S : Nat → Prop} {a w : World} (h : KeepsO base S a w) : KeepsO base S a w.drew := ⟨h.toKeeps.drew, h.only⟩
theorem KeepsO.drewN {base : Nat} {S : Nat → Prop} {a w : World} (h : KeepsO base S a w) (m : Nat) : KeepsO base S a (w.drewN m) := ⟨h.toKeeps.drewN m, h.only⟩
theorem KeepsO.alloc {base : Nat} {S : Nat → Prop} {a w : World} (h : KeepsO base S a w) (hB : base ≤ w.heap.size) (o : Obj) : KeepsO base S a (w.alloc o) :=
  ⟨h.toKeeps.alloc hB o, fun k hk hs => by rw [Below.heap_alloc _ _ _ (Nat.lt_of_lt_of_le hk h.below.size)]; exact h.only k hk hs⟩
theorem KeepsO.setCell {base : Nat} {S : Nat → Prop} {a w : World} (h : KeepsO base S a w) {p : Addr} (hp : base ≤ p.block) {cs : Array Value} {t : TypeId} {z : Nat × Nat} (hb : w.heap[p.block]? = some (.cells cs t z)) (ht : t ≠ 4) (hS : S p.block) (u : Value) : KeepsO base S a (w.setCell p u) :=
  ⟨h.toKeeps.setCell hp hb ht u, fun k hk hs => by
    have hne : k ≠ p.block := fun e => hs (by rw [e]; exact hS)
    rw [Below.heap_setCell _ _ _ _ hne]; exact h.only k hk hs⟩
theorem KeepsO.grown {base : Nat} {S : Nat → Prop} {a w w' : World} {v : Value} {n : Nat} {xs : List Value} {t : TypeId} (h : KeepsO base S a w) (hg : w.grownBy w' v.ownBlock) (hB : base ≤ w.heap.size) (hown : w.ownsRow base t 1 v n xs) (ht : t ≠ 4) (hS : ∀ k, v.ownBlock = some k → S k) : KeepsO base S a w' :=
  ⟨h.toKeeps.grown hg hB hown ht, fun k hk hs => by rw [hg.block k (Nat.lt_of_lt_of_le hk h.below.size) (fun e => hs (hS k e.symm))]; exact h.only k hk hs⟩

theorem own_ne {w : World} {base b n : Nat} {v : Value} {xs : List Value} {cs : Array Value} {z : Nat × Nat} {t e : TypeId} (hb : w.heap[b]? = some (.cells cs t z)) (hown : w.ownsRow base e 1 v n xs) (hte : t ≠ e) : v.ownBlock ≠ some b := by
  intro h
  rcases hown.2 with ⟨rfl, _⟩ | ⟨g, cap, cur, rfl, _, hh, _⟩
  · simp [Value.ownBlock] at h
  · simp [Value.ownBlock] at h
    subst h
    rw [hb] at hh
    simp at hh
    exact hte hh.2.1

theorem new_row (w : World) : Calls Tryd.prog 37 #[] w fun e w' => e = .returned (.pointer (some ⟨w.heap.size, 0, none⟩)) ∧ w' = w.alloc (.cells #[.slice none 0 0, .int .i64 0] 88) := by
  go_enter Tryd.func37, Tryd.ntmps37
  go_wp2
  go_ret
  exact ⟨rfl, rfl⟩

theorem wordsOf (n : Nat) (hn : n ≤ 9223372036854775807) (w : World) : Calls Tryd.prog 55 #[.int .i64 n] w fun e w' => e = .returned (.int .i64 (nw n : Nat)) ∧ w' = w := by
  go_enter Tryd.func55, Tryd.ntmps55
  go_wp2
  all_goals go_ret
  · rename_i h
    have h1 : (n : Int) % 64 ≠ 0 := by simpa using h
    have : (n : Int) / 64 + 1 = ((nw n : Nat) : Int) := by unfold nw; omega
    exact ⟨by simp [this], rfl⟩
  · rename_i h
    have h1 : (n : Int) % 64 = 0 := by simpa using h
    have : (n : Int) / 64 = ((nw n : Nat) : Int) := by unfold nw; omega
    exact ⟨by simp [this], rfl⟩

theorem row_len (b n : Nat) (w : World) (h1 : w.cell? ⟨b, 1, none⟩ = some (.int .i64 n)) : Calls Tryd.prog 36 #[.pointer (some ⟨b, 0, none⟩)] w fun e w' => e = .returned (.int .i64 n) ∧ w' = w := by
  go_enter Tryd.func36, Tryd.ntmps36
  go_wp2
  go_ret
  exact ⟨rfl, rfl⟩

theorem nil_len (w : World) : Calls Tryd.prog 36 #[.pointer none] w fun e w' => e = .returned (.int .i64 0) ∧ w' = w := by
  go_enter Tryd.func36, Tryd.ntmps36
  go_wp2
  go_ret
  exact ⟨rfl, rfl⟩

end Go.Proofs.YtheieibkbeckkaaDoor

namespace Go.Proofs.YtheieibkbeckkaaDoor
open Go.RowKit

theorem Tryd.info36 : (Tryd.prog.info? 66).map (fun i => (i.zero, i.size, i.bytes)) = some (some (.int .u64 0), 1, 8) := by kernel_rfl

/-- The word in which the last bit stands has taken what it could. -/
theorem mid_world {w : World} {base b g K cap n V x : Nat} {L : Value} (hK : K = nw n) (hb : w.heap[b]? = some (.cells #[.slice (some ⟨g, 0, none⟩) K cap, .int .i64 n] 88 (0, 0))) (hlo : base ≤ b) (hV : V < 2 ^ n)
    (hown : w.ownsRow base 66 1 (.slice (some ⟨g, 0, none⟩) K cap) K (u64s (wd V) K)) (Y : Value) (hL : L = .int .u64 (wd (cat V n x) (n / 64) : Nat)) :
    (((w.setCell ⟨g, n / 64, none⟩ L).setCell ⟨b, 1, none⟩ Y).drew).heap[b]? = some (.cells #[.slice (some ⟨g, 0, none⟩) K cap, Y] 88 (0, 0)) ∧
    (((w.setCell ⟨g, n / 64, none⟩ L).setCell ⟨b, 1, none⟩ Y).drew).ownsRow base 66 1 (.slice (some ⟨g, 0, none⟩) K cap) K (u64s (wd (cat V n x)) K) ∧
    KeepsO base (fun k => k = b ∨ (Value.slice (some ⟨g, 0, none⟩) K cap).ownBlock = some k) w (((w.setCell ⟨g, n / 64, none⟩ L).setCell ⟨b, 1, none⟩ Y).drew) := by
  have hne := own_ne hb hown (by decide)
  have hgb : g ≠ b := fun e => hne (by simp [Value.ownBlock, e])
  obtain ⟨h1, h2⟩ := hown.stored (n / 64) L
  have hb1 : (w.setCell ⟨g, n / 64, none⟩ L).heap[b]? = _ := set_off hb (Ne.symm hgb)
  have hl : (u64s (wd V) K).set (n / 64) L = u64s (wd (cat V n x)) K := by
    apply List.ext_getElem?
    intro i
    by_cases hi : i < K
    · rw [u64s_get _ _ _ hi, List.getElem?_set]
      by_cases h : n / 64 = i
      · subst h
        simp [u64s_len, hi, hL]
      · rw [if_neg h, u64s_get _ _ _ hi, wd_cat_low x hV i (by unfold nw at hK; omega)]
    · rw [List.getElem?_eq_none (by simp [u64s_len]; omega), List.getElem?_eq_none (by simp [u64s_len]; omega)]
  rw [hl] at h1
  obtain ⟨cur, hcur, hglo⟩ : ∃ cur, w.heap[g]? = some (.cells cur 66 (0, 0)) ∧ base ≤ g := by
    rcases hown.2 with ⟨h, _⟩ | ⟨g', cap', cur, h, hlo, hh, _⟩
    · simp at h
    · simp at h
      obtain ⟨rfl, rfl⟩ := h
      exact ⟨cur, hh, hlo⟩
  refine ⟨set_1 hb1, ownsRow_setCell_other h1 (by simpa [Value.ownBlock] using hgb) _, ?_⟩
  exact (((KeepsO.refl base _ w).setCell (p := ⟨g, n / 64, none⟩) hglo hcur (by decide) (.inr rfl) _).setCell (p := ⟨b, 1, none⟩) hlo hb1 (by decide) (.inl rfl) _).drew

/-- The words have got a new one behind them. -/
theorem grow_world {w w3 w4 : World} {base b K n' : Nat} {v v' Y : Value} {xs xs' : List Value} {o : Obj} {S : Nat → Prop} (hk : KeepsO base S w w3) (hSb : S b) (hSv : ∀ k, v.ownBlock = some k → S k) (hb : w3.heap[b]? = some (.cells #[v, Y] 88 (0, 0))) (hlo : base ≤ b) (hsz : base ≤ w3.heap.size)
    (hown : w3.ownsRow base 66 1 v K xs) (hown4 : w4.ownsRow base 66 1 v' n' xs') (hg : (w3.alloc o).grownBy w4 v.ownBlock) :
    w4.heap[b]? = some (.cells #[v, Y] 88 (0, 0)) ∧ (w4.setCell ⟨b, 0, none⟩ v').heap[b]? = some (.cells #[v', Y] 88 (0, 0)) ∧ (w4.setCell ⟨b, 0, none⟩ v').ownsRow base 66 1 v' n' xs' ∧ KeepsO base S w (w4.setCell ⟨b, 0, none⟩ v') := by
  have hlt := lt_of_block hb
  have ha : (w3.alloc o).heap[b]? = some (.cells #[v, Y] 88 (0, 0)) := by rw [Below.heap_alloc _ _ _ hlt]; exact hb
  have h4 : w4.heap[b]? = some (.cells #[v, Y] 88 (0, 0)) := by
    rw [hg.block b (lt_of_block ha) (Ne.symm (own_ne hb hown (by decide)))]; exact ha
  have hka : KeepsO base S w (w3.alloc o) := hk.alloc hsz o
  have hk4 : KeepsO base S w w4 := hka.grown hg (by simp; omega) (hown.alloc o) (by decide) hSv
  exact ⟨h4, set_0 h4, ownsRow_setCell_other hown4 (own_ne h4 hown4 (by decide)) _, hk4.setCell (p := ⟨b, 0, none⟩) hlo h4 (by decide) hSb _⟩

theorem u64s_succ (f : Nat → Nat) (K : Nat) : u64s f (K + 1) = u64s f K ++ [.int .u64 (f K : Nat)] := by simp [u64s, List.range_succ]

set_option maxHeartbeats 800000 in
set_option maxRecDepth 1000000 in
theorem add_mid (base b g K cap n x N V : Nat) (w : World) (hK : K = nw n) (hb : w.heap[b]? = some (.cells #[.slice (some ⟨g, 0, none⟩) K cap, .int .i64 n] 88 (0, 0))) (hlo : base ≤ b) (hsz : base ≤ w.heap.size) (hV : V < 2 ^ n)
    (hown : w.ownsRow base 66 1 (.slice (some ⟨g, 0, none⟩) K cap) K (u64s (wd V) K)) (hu0 : n % 64 ≠ 0) (hN : N ≤ 64) (hx : x < 18446744073709551616) (hxN : Lib.bitLen x ≤ N) (hnL : n ≤ 1099511627776) :
    Calls Tryd.prog 38 #[.pointer (some ⟨b, 0, none⟩), .int .u64 x, .int .i64 N] w fun e w' => e = .returned (.int .i64 0) ∧
      (∃ v, w'.heap[b]? = some (.cells #[v, .int .i64 ((n + N : Nat) : Int)] 88 (0, 0)) ∧ w'.ownsRow base 66 1 v (nw (n + N)) (u64s (wd (cat V n x)) (nw (n + N)))) ∧ KeepsO base (fun k => k = b ∨ (Value.slice (some ⟨g, 0, none⟩) K cap).ownBlock = some k) w w' := by
  obtain ⟨c0, c1, f0, f1⟩ := cells2 hb
  obtain ⟨q, hq⟩ : ∃ q, n / 64 = q := ⟨_, rfl⟩
  obtain ⟨u, hu⟩ : ∃ u, n % 64 = u := ⟨_, rfl⟩
  have hqK : q < K := by unfold nw at hK; omega
  have cq : w.cell? ⟨g, q, none⟩ = some (.int .u64 (wd V q : Nat)) := by rw [hown.cellAt q (by omega), u64s_get _ _ _ hqK]
  have fq := hown.frozenAt q
  have hgb : ¬ g = b := fun e => own_ne hb hown (by decide) (by simp [Value.ownBlock, e])
  have hd : (n : Int) / 64 = q := by omega
  have hm : (n : Int) % 64 = u := by omega
  have hub : u < 64 := by omega
  have hu1 : u ≠ 0 := by omega
  have hL : Value.int .u64 (bits .or .u64 ((wd V q : Nat) : Int) (IntKind.u64.wrap ((x : Int) * 2 ^ u))) = .int .u64 (wd (cat V n x) (n / 64) : Nat) := by
    have e1 : IntKind.u64.wrap ((x : Int) * 2 ^ u) = ((x * 2 ^ u % 18446744073709551616 : Nat) : Int) := by
      rw [IntKind.wrap_u64, Int.natCast_emod, Int.natCast_mul, Int.natCast_pow]; rfl
    rw [e1, u64_or_nat _ _ (wd_lt _ _) (Nat.mod_lt _ (by decide)), wd_cat_mid x hV, hq, hu]
  have mw := mid_world (x := x) hK hb hlo hV hown (.int .i64 ((n : Int) + (N : Int))) hL
  rw [hq] at mw
  have HH : Hid (K = nw n ∧ n / 64 = q ∧ n % 64 = u ∧ V < 2 ^ n ∧ n % 64 ≠ 0) := ⟨hK, hq, hu, hV, hu0⟩
  clear hK hq hu hV hb hown hL hu0
  have hwo : ∀ w, Calls Tryd.prog 55 #[.int .i64 ((n : Int) + (N : Int))] w fun e w' => e = .returned (.int .i64 (nw (n + N) : Nat)) ∧ w' = w := fun w => wordsOf (n + N) (by omega) w
  have MW : Hid _ := mw
  clear mw
  go_enter Tryd.func38, Tryd.ntmps38
  go_wp2_with (go_at_call 30; refine (lane_Width x hx _).mono ?_; rintro e w' ⟨rfl, rfl⟩)
  go_region
  all_goals go_wp2_with fail
  obtain ⟨hb2, hown2, hkeep⟩ := MW.out
  generalize ((w'.setCell ⟨g, q, none⟩ (.int .u64 (bits .or .u64 ((wd V q : Nat) : Int) (IntKind.u64.wrap ((x : Int) * 2 ^ u))))).setCell ⟨b, 1, none⟩ (.int .i64 ((n : Int) + (N : Int)))).drew = w2 at *
  obtain ⟨d0, d1, e0, e1⟩ := cells2 hb2
  go_quiet ((go_at_call 55; exact Calls.quiet_of_same (hwo _)))
  have hb3 : (w2.drewN nq).heap[b]? = some (.cells #[.slice (some ⟨g, 0, none⟩) K cap, .int .i64 ((n : Int) + (N : Int))] 88 (0, 0)) := hb2
  have hown3 : (w2.drewN nq).ownsRow base 66 1 (.slice (some ⟨g, 0, none⟩) K cap) K (u64s (wd (cat V n x)) K) := hown2
  have hkeep3 := hkeep.drewN nq
  clear hwo MW hb2 hown2 hkeep d0 d1 e0 e1
  generalize w2.drewN nq = w3 at *
  obtain ⟨d0, d1, e0, e1⟩ := cells2 hb3
  have hsz3 : base ≤ w3.heap.size := Nat.le_trans hsz hkeep3.below.size
  have hX : ((x : Int) / 2 ^ (64 - u)) = ((x / 2 ^ (64 - u) : Nat) : Int) := by rw [Int.natCast_ediv, Int.natCast_pow]; rfl
  by_cases hov : K < nw (n + N)
  · have hK1 : nw (n + N) = K + 1 := by
      have := HH.out.1
      unfold nw at hov this ⊢
      omega
    have HB : Hid _ := And.intro hb3 hown3
    have hblt := lt_of_block hb3
    have hB1 : Hid (u64s (wd (cat V n x)) K ++ [.int .u64 ((x : Int) / 2 ^ (64 - u))] = u64s (wd (cat V n x)) (K + 1)) := by
      have hn := wd_cat_new HH.out.2.2.2.1 hx HH.out.2.2.2.2
      have h64 : K = n / 64 + 1 := by
        have := HH.out.1
        have := HH.out.2.2.2.2
        unfold nw at *
        omega
      have e : u64s (wd (cat V n x)) (K + 1) = u64s (wd (cat V n x)) K ++ [.int .u64 (wd (cat V n x) K : Nat)] := by simp [u64s, List.range_succ]
      rw [e, h64, hn, HH.out.2.2.1, hX]
      rfl
    clear hb3 hown3 hX
    obtain ⟨i0, hi, hz0, hz1, hz2⟩ := info_parts Tryd.info36
    go_wp2_with (at_builtin; refine wpList_append_own _ rfl (.tmp 70) (.tmp 72) 67 rfl base 66 i0 (.int .u64 0) 1 8 Tryd.underlying67 hi hz0 hz1 hz2 rfl (by decide) _ _ _ rfl (HB.out.2.alloc _) ⟨w3.heap.size, 0, none⟩ 1 1 [.int .u64 ((x : Int) / 2 ^ (64 - u))] rfl rfl ?c1 ?c2 ?c3 ?c4 ?c5 ?_)
    case c1 => intro j y hj; match j, hj with | 0, hj => simp at hj; subst hj; simp [Addr.add]
    case c2 => intro y hy; simp at hy; subst hy; rfl
    case c3 => have := HH.out.1; unfold nw at this; unfold maxLen; omega
    case c4 => have := HH.out.1; unfold nw at this; omega
    case c5 => simp; omega
    · intro v' w4 hown4 hgrow _
      obtain ⟨hb3, hown3⟩ := HB.out
      obtain ⟨h4, h5, hown5, hkeep5⟩ := grow_world hkeep3 (.inl rfl) (fun _ h => .inr h) hb3 hlo hsz3 hown3 hown4 hgrow
      rw [hB1.out] at hown5
      obtain ⟨g', cap', rfl⟩ : ∃ g cap', v' = .slice (some ⟨g, 0, none⟩) (K + 1) cap' := by
        rcases hown4.2 with ⟨_, h⟩ | ⟨g, cap', _, h, _⟩
        · omega
        · exact ⟨g, cap', h⟩
      obtain ⟨k0, k1, l0, l1⟩ := cells2 h4
      have H5 : Hid _ := And.intro h5 hown5
      clear hb3 hown3 hown4 hgrow h4 h5 hown5 HB hB1
      go_wp2
      go_ret
      refine ⟨rfl, ⟨_, H5.out.1, ?_⟩, hkeep5⟩
      rw [hK1]
      exact H5.out.2
  · have hK1 : nw (n + N) = K := by
      have := HH.out.1
      unfold nw at hov this ⊢
      omega
    have HB : Hid _ := And.intro hb3 hown3
    clear hb3 hown3 hX
    go_wp2
    go_ret
    refine ⟨rfl, ⟨_, HB.out.1, ?_⟩, hkeep3⟩
    rw [hK1]
    exact HB.out.2

set_option maxHeartbeats 800000 in
set_option maxRecDepth 1000000 in
theorem add_first (base b K n x N V : Nat) (v : Value) (w : World) (hK : K = nw n) (hb : w.heap[b]? = some (.cells #[v, .int .i64 n] 88 (0, 0))) (hlo : base ≤ b) (hsz : base ≤ w.heap.size) (hV : V < 2 ^ n)
    (hown : w.ownsRow base 66 1 v K (u64s (wd V) K)) (hu0 : n % 64 = 0) (hN : N ≤ 64) (hx : x < 18446744073709551616) (hxN : Lib.bitLen x ≤ N) (hnL : n ≤ 1099511627776) :
    Calls Tryd.prog 38 #[.pointer (some ⟨b, 0, none⟩), .int .u64 x, .int .i64 N] w fun e w' => e = .returned (.int .i64 0) ∧
      (∃ v, w'.heap[b]? = some (.cells #[v, .int .i64 ((n + N : Nat) : Int)] 88 (0, 0)) ∧ w'.ownsRow base 66 1 v (nw (n + N)) (u64s (wd (cat V n x)) (nw (n + N)))) ∧ KeepsO base (fun k => k = b ∨ v.ownBlock = some k) w w' := by
  obtain ⟨ao, cap, rfl⟩ : ∃ ao cap, v = .slice ao K cap := by
    rcases hown.2 with ⟨h, h2⟩ | ⟨g, cap, _, h, _⟩
    · exact ⟨none, 0, by rw [h, h2]⟩
    · exact ⟨_, _, h⟩
  obtain ⟨c0, c1, f0, f1⟩ := cells2 hb
  have hm : (n : Int) % 64 = 0 := by omega
  have hKn : K = n / 64 := by unfold nw at hK; omega
  have hlist : Hid (u64s (wd V) K ++ [.int .u64 (x : Int)] = u64s (wd (cat V n x)) (K + 1) ∧ u64s (wd V) K = u64s (wd (cat V n x)) K) := by
    have e : u64s (wd V) K = u64s (wd (cat V n x)) K := u64s_congr fun i hi => (wd_cat_low x hV i (by omega)).symm
    refine ⟨?_, e⟩
    rw [u64s_succ, hKn, wd_cat_first hV hx hu0, ← hKn, e]
  have hwo : ∀ w, Calls Tryd.prog 55 #[.int .i64 ((n : Int) + (N : Int))] w fun e w' => e = .returned (.int .i64 (nw (n + N) : Nat)) ∧ w' = w := fun w => wordsOf (n + N) (by omega) w
  have hs1 : (w.setCell ⟨b, 1, none⟩ (.int .i64 ((n : Int) + (N : Int)))).heap[b]? = _ := set_1 hb
  have hs2 := ownsRow_setCell_other hown (a := ⟨b, 1, none⟩) (own_ne hb hown (by decide)) (.int .i64 ((n : Int) + (N : Int)))
  have hs3 := (KeepsO.refl base (fun k => k = b ∨ (Value.slice ao K cap).ownBlock = some k) w).setCell (p := ⟨b, 1, none⟩) hlo hb (by decide) (.inl rfl) (.int .i64 ((n : Int) + (N : Int)))
  have MW : Hid _ := And.intro hs1 (And.intro hs2 hs3)
  have HH : Hid (K = nw n ∧ K = n / 64) := ⟨hK, hKn⟩
  clear hs1 hs2 hs3 hb hown hK hKn hV
  go_enter Tryd.func38, Tryd.ntmps38
  go_wp2_with (go_at_call 30; refine (lane_Width x hx _).mono ?_; rintro e w' ⟨rfl, rfl⟩)
  obtain ⟨hb2, hown2, hkeep⟩ := MW.out
  clear MW
  generalize (w'.setCell ⟨b, 1, none⟩ (.int .i64 ((n : Int) + (N : Int)))) = w2 at *
  obtain ⟨d0, d1, e0, e1⟩ := cells2 hb2
  go_quiet ((go_at_call 55; exact Calls.quiet_of_same (hwo _)))
  have hb3 : (w2.drewN nq).heap[b]? = some (.cells #[.slice ao K cap, .int .i64 ((n : Int) + (N : Int))] 88 (0, 0)) := hb2
  have hown3 : (w2.drewN nq).ownsRow base 66 1 (.slice ao K cap) K (u64s (wd V) K) := hown2
  have hkeep3 := hkeep.drewN nq
  clear hwo hb2 hown2 hkeep d0 d1 e0 e1
  generalize w2.drewN nq = w3 at *
  obtain ⟨d0, d1, e0, e1⟩ := cells2 hb3
  have hsz3 : base ≤ w3.heap.size := Nat.le_trans hsz hkeep3.below.size
  by_cases hov : K < nw (n + N)
  · have hK1 : nw (n + N) = K + 1 := by
      have := HH.out.1
      unfold nw at hov this ⊢
      omega
    have HB : Hid _ := And.intro hb3 hown3
    have hblt := lt_of_block hb3
    clear hb3 hown3
    obtain ⟨i0, hi, hz0, hz1, hz2⟩ := info_parts Tryd.info36
    go_wp2_with (at_builtin; refine wpList_append_own _ rfl (.tmp 70) (.tmp 72) 67 rfl base 66 i0 (.int .u64 0) 1 8 Tryd.underlying67 hi hz0 hz1 hz2 rfl (by decide) _ _ _ rfl (HB.out.2.alloc _) ⟨w3.heap.size, 0, none⟩ 1 1 [.int .u64 (x : Int)] rfl rfl ?c1 ?c2 ?c3 ?c4 ?c5 ?_)
    case c1 => intro j y hj; match j, hj with | 0, hj => simp at hj; subst hj; simp [Addr.add]
    case c2 => intro y hy; simp at hy; subst hy; rfl
    case c3 => have := HH.out.1; unfold nw at this; unfold maxLen; omega
    case c4 => have := HH.out.1; unfold nw at this; omega
    case c5 => simp; omega
    · intro v' w4 hown4 hgrow _
      obtain ⟨hb3, hown3⟩ := HB.out
      obtain ⟨h4, h5, hown5, hkeep5⟩ := grow_world hkeep3 (.inl rfl) (fun _ h => .inr h) hb3 hlo hsz3 hown3 hown4 hgrow
      rw [hlist.out.1] at hown5
      obtain ⟨g', cap', rfl⟩ : ∃ g cap', v' = .slice (some ⟨g, 0, none⟩) (K + 1) cap' := by
        rcases hown4.2 with ⟨_, h⟩ | ⟨g, cap', _, h, _⟩
        · omega
        · exact ⟨g, cap', h⟩
      obtain ⟨k0, k1, l0, l1⟩ := cells2 h4
      have H5 : Hid _ := And.intro h5 hown5
      clear hb3 hown3 hown4 hgrow h4 h5 hown5 HB
      go_wp2
      go_ret
      refine ⟨rfl, ⟨_, H5.out.1, ?_⟩, hkeep5⟩
      rw [hK1]
      exact H5.out.2
  · have hK1 : nw (n + N) = K := by
      have := HH.out.1
      unfold nw at hov this ⊢
      omega
    have HB : Hid _ := And.intro hb3 hown3
    clear hb3 hown3
    go_wp2
    go_ret
    refine ⟨rfl, ⟨_, HB.out.1, ?_⟩, hkeep3⟩
    rw [hK1, ← hlist.out.2]
    exact HB.out.2

/-- What Add tells. -/
def addErr (x : Nat) (N : Int) : Int := if N < 0 ∨ 64 < N then 1 else if N.toNat < Lib.bitLen x then 8 else 0
def addV (V n x : Nat) (N : Int) : Nat := if addErr x N = 0 then cat V n x else V
def addN (n x : Nat) (N : Int) : Nat := if addErr x N = 0 then n + N.toNat else n

theorem width_lt (x k : Nat) (hx : x < 18446744073709551616) (h : Lib.bitLen x ≤ k) : x < 2 ^ k := by
  by_cases h0 : x = 0
  · subst h0; exact Nat.two_pow_pos k
  · exact Nat.lt_of_lt_of_le (Lib.bitLenAux_bounds 64 x hx h0).2.2 (Nat.pow_le_pow_right (by decide) h)

/-- The blocks of the row at b. -/
def RowBlk (w : World) (b k : Nat) : Prop := k = b ∨ ∃ v y, w.heap[b]? = some (.cells #[v, y] 88 (0, 0)) ∧ v.ownBlock = some k

set_option maxRecDepth 1000000 in
theorem row_add_o (base b V n x : Nat) (N : Int) (w : World) (h : RowAt w base b V n) (hsz : base ≤ w.heap.size) (hx : x < 18446744073709551616) (hn : n + 64 ≤ 1099511627776) :
    Calls Tryd.prog 38 #[.pointer (some ⟨b, 0, none⟩), .int .u64 x, .int .i64 N] w fun e w' => e = .returned (.int .i64 (addErr x N)) ∧ RowAt w' base b (addV V n x N) (addN n x N) ∧ KeepsO base (RowBlk w b) w w' := by
  by_cases h1 : N < 0 ∨ 64 < N
  · have he : addErr x N = 1 := by simp [addErr, h1]
    have h' : RowAt w base b (addV V n x N) (addN n x N) := by simp [addV, addN, he]; exact h
    rw [he]
    have : Hid _ := And.intro h h'
    clear h he h'
    rcases h1 with h1 | h1
    all_goals
      go_enter Tryd.func38, Tryd.ntmps38
      go_wp2
      go_ret
      exact ⟨rfl, this.out.2, KeepsO.refl _ _ _⟩
  · obtain ⟨N, rfl⟩ := Int.eq_ofNat_of_zero_le (show 0 ≤ N by omega)
    have hN : N ≤ 64 := by omega
    by_cases h2 : N < Lib.bitLen x
    · have he : addErr x N = 8 := by simp [addErr, h1, h2]
      have h' : RowAt w base b (addV V n x N) (addN n x N) := by simp [addV, addN, he]; exact h
      rw [he]
      have : Hid _ := And.intro h h'
      clear h he h' h1
      go_enter Tryd.func38, Tryd.ntmps38
      go_wp2_with (go_at_call 30; refine (lane_Width x hx _).mono ?_; rintro e w' ⟨rfl, rfl⟩)
      go_ret
      exact ⟨rfl, this.out.2, KeepsO.refl _ _ _⟩
    · have he : addErr x N = 0 := by simp [addErr, h1, h2]
      have hlt := width_lt x N hx (by omega)
      rw [he, show addV V n x N = cat V n x by simp [addV, he], show addN n x N = n + N by simp [addN, he]]
      obtain ⟨v, hb, hown⟩ := h.mem
      have fin : ∀ (e : Ending) (w' : World), (e = .returned (.int .i64 0) ∧ (∃ v, w'.heap[b]? = some (.cells #[v, .int .i64 ((n + N : Nat) : Int)] 88 (0, 0)) ∧ w'.ownsRow base 66 1 v (nw (n + N)) (u64s (wd (cat V n x)) (nw (n + N)))) ∧ KeepsO base (fun k => k = b ∨ v.ownBlock = some k) w w') →
          (e = .returned (.int .i64 0) ∧ RowAt w' base b (cat V n x) (n + N) ∧ KeepsO base (RowBlk w b) w w') := fun e w' ⟨a, m, k⟩ => ⟨a, ⟨h.lo, cat_lt h.fit hlt, by omega, m⟩, k.toKeeps, fun j hj hs => k.only j hj (fun hj2 => hs (hj2.imp id fun h2 => ⟨_, _, hb, h2⟩))⟩
      by_cases hu : n % 64 = 0
      · exact (add_first base b (nw n) n x N V v w rfl hb h.lo hsz h.fit hown hu hN hx (by omega) h.len).mono fin
      · obtain ⟨g, cap, rfl⟩ : ∃ g cap, v = .slice (some ⟨g, 0, none⟩) (nw n) cap := by
          rcases hown.2 with ⟨_, h⟩ | ⟨g, cap, _, h, _⟩
          · unfold nw at h; omega
          · exact ⟨g, cap, h⟩
        exact (add_mid base b g (nw n) cap n x N V w rfl hb h.lo hsz h.fit hown hu hN hx (by omega) h.len).mono fin

theorem row_add (base b V n x : Nat) (N : Int) (w : World) (h : RowAt w base b V n) (hsz : base ≤ w.heap.size) (hx : x < 18446744073709551616) (hn : n + 64 ≤ 1099511627776) :
    Calls Tryd.prog 38 #[.pointer (some ⟨b, 0, none⟩), .int .u64 x, .int .i64 N] w fun e w' => e = .returned (.int .i64 (addErr x N)) ∧ RowAt w' base b (addV V n x N) (addN n x N) ∧ Keeps base w w' :=
  (row_add_o base b V n x N w h hsz hx hn).mono fun _ _ ⟨a, r, k⟩ => ⟨a, r, k.toKeeps⟩

theorem nil_add (w : World) (x N : Int) : Calls Tryd.prog 38 #[.pointer none, .int .u64 x, .int .i64 N] w fun e w' => e = .returned (.int .i64 11) ∧ w' = w := by
  go_enter Tryd.func38, Tryd.ntmps38
  go_wp2
  go_ret
  exact ⟨rfl, rfl⟩

end Go.Proofs.YtheieibkbeckkaaDoor

namespace Go.Proofs.YtheieibkbeckkaaDoor
open Go.RowKit

theorem Hid.mk {p : Prop} (h : p) : Hid p := h

/-- A row as it is read. -/
structure RowRd (w : World) (b V n : Nat) : Prop where
  fit : V < 2 ^ n
  len : n ≤ 1099511627776
  c1 : w.cell? ⟨b, 1, none⟩ = some (.int .i64 n)
  c0 : (nw n = 0 ∧ ∃ ao cap, w.cell? ⟨b, 0, none⟩ = some (.slice ao 0 cap)) ∨
    ∃ g cap, w.cell? ⟨b, 0, none⟩ = some (.slice (some ⟨g, 0, none⟩) (nw n) cap) ∧ ∀ j, j < nw n → w.cell? ⟨g, j, none⟩ = some (.int .u64 (wd V j : Nat))

theorem RowAt.rd {w : World} {base b V n : Nat} (h : RowAt w base b V n) : RowRd w b V n := by
  obtain ⟨v, hb, hown⟩ := h.mem
  obtain ⟨c0, c1, _, _⟩ := cells2 hb
  refine ⟨h.fit, h.len, c1, ?_⟩
  rcases hown.2 with ⟨rfl, hn⟩ | ⟨g, cap, cur, rfl, _, hg, _⟩
  · exact .inl ⟨hn, _, _, c0⟩
  · exact .inr ⟨g, cap, c0, fun j hj => by rw [hown.cellAt j (by omega), u64s_get _ _ _ hj]⟩
theorem RowRd.drewN {w : World} {b V n : Nat} (h : RowRd w b V n) (m : Nat) : RowRd (w.drewN m) b V n := ⟨h.fit, h.len, h.c1, h.c0⟩
theorem RowRd.zero {w : World} {b V n : Nat} (h : RowRd w b V n) (h0 : nw n = 0) : V = 0 := by
  have : n = 0 := by unfold nw at h0; omega
  have := h.fit
  subst n
  simpa using this

theorem row_word (b V n : Nat) (k : Int) (w : World) (h : RowRd w b V n) : Calls Tryd.prog 65 #[.pointer (some ⟨b, 0, none⟩), .int .i64 k] w fun e w' => e = .returned (.int .u64 (wdI V k : Nat)) ∧ w' = w := by
  have hl : nw n ≤ 1099511627776 := by have := h.len; unfold nw; omega
  by_cases h0 : k < 0
  · rw [show wdI V k = 0 by simp [wdI, h0]]
    clear h
    go_enter Tryd.func65, Tryd.ntmps65
    go_wp2
    go_ret
    exact ⟨rfl, rfl⟩
  obtain ⟨k, rfl⟩ := Int.eq_ofNat_of_zero_le (show 0 ≤ k by omega)
  by_cases h1 : nw n ≤ k
  · rw [show wdI V k = 0 by simp [wdI, wd_zero h.fit k h1]]
    rcases h.c0 with ⟨hz, ao, cap, c0⟩ | ⟨g, cap, c0, hc⟩
    · clear h hz
      go_enter Tryd.func65, Tryd.ntmps65
      go_wp2
      go_ret
      exact ⟨rfl, rfl⟩
    · clear h hc
      go_enter Tryd.func65, Tryd.ntmps65
      go_wp2
      go_ret
      exact ⟨rfl, rfl⟩
  · rw [show wdI V k = wd V k by simp [wdI]; omega]
    rcases h.c0 with ⟨hz, ao, cap, c0⟩ | ⟨g, cap, c0, hc⟩
    · omega
    · have hk := hc k (by omega)
      clear h hc
      go_enter Tryd.func65, Tryd.ntmps65
      go_wp2
      go_ret
      exact ⟨rfl, rfl⟩

theorem nil_word (k : Int) (w : World) : Calls Tryd.prog 65 #[.pointer none, .int .i64 k] w fun e w' => e = .returned (.int .u64 0) ∧ w' = w := by
  go_enter Tryd.func65, Tryd.ntmps65
  go_wp2
  go_ret
  exact ⟨rfl, rfl⟩

theorem i64_and63 (n : Int) : bits .and .i64 n 63 = n % 64 := by
  have h63 : (BitVec.ofInt 64 63).toNat = 2 ^ 6 - 1 := by decide
  have key : (BitVec.ofInt 64 n &&& BitVec.ofInt 64 63).toNat = (n % ((2 ^ 64 : Nat) : Int)).toNat % 2 ^ 6 := by
    rw [BitVec.toNat_and, BitVec.toNat_ofInt, h63, Nat.and_two_pow_sub_one_eq_mod]
  show IntKind.i64.wrap ((BitVec.ofInt 64 n &&& BitVec.ofInt 64 63).toNat : Nat) = n % 64
  rw [key, IntKind.wrap_i64]
  omega

theorem or_mods (A B M : Nat) (h : M ≤ 64) : bits .or .u64 ((A : Int) % 2 ^ M) ((B : Int) % 2 ^ M) = ((A % 2 ^ M ||| B % 2 ^ M : Nat) : Int) := by
  have e : ∀ X : Nat, ((X : Int) % 2 ^ M) = ((X % 2 ^ M : Nat) : Int) := fun X => by rw [Int.natCast_emod, Int.natCast_pow]; rfl
  rw [e A, e B, u64_or_nat _ _ (mod_lt64 _ _ h) (mod_lt64 _ _ h)]

theorem row_cut (b V n : Nat) (a m : Int) (w : World) (h : RowRd w b V n) (a0 : -9223372036854775808 ≤ a) (a1 : a ≤ 9223372036854775807) :
    Calls Tryd.prog 58 #[.pointer (some ⟨b, 0, none⟩), .int .i64 a, .int .i64 m] w fun e w' => e = .returned (.int .u64 (cutV V a (min 64 m.toNat) : Nat)) ∧ ∃ k, w' = w.drewN k := by
  have hand := i64_and63 a
  obtain ⟨k, hk⟩ : ∃ k, a / 64 = k := ⟨_, rfl⟩
  obtain ⟨u, hu⟩ := Int.eq_ofNat_of_zero_le (show 0 ≤ a % 64 by omega)
  rw [hu] at hand
  have hu64 : u < 64 := by omega
  have he : cutV V a (min 64 m.toNat) = (sh (wdI V k) (u : Int) % 2 ^ min 64 m.toNat) ||| (sh (wdI V (k + 1)) ((u : Int) - 64) % 2 ^ min 64 m.toNat) := by
    rw [cut_two V k u _ hu64 (by omega), show 64 * k + (u : Int) = a by omega]
  rw [he]
  have k0 : -9223372036854775808 ≤ k := by omega
  have k1 : k ≤ 1099511627776000000 := by omega
  have HR : Hid _ := h
  clear h hu he a0 a1
  go_enter Tryd.func58, Tryd.ntmps58
  go_wp2_with (first
    | (go_at_call 65; refine (row_word b V n _ _ (by first | exact HR.out | exact HR.out.drewN _)).mono ?_; rintro e w' ⟨rfl, rfl⟩)
    | (go_at_call 50; refine (lane_Cut _ (wdI_lt _ _) _ _ _).mono ?_; rintro e w' ⟨rfl, m1, rfl⟩))
  go_ret
  refine ⟨?_, _, rfl⟩
  rw [← or_mods _ _ _ (by omega)]
  rfl

theorem sh_0 (a : Int) : sh 0 a = 0 := by unfold sh; split <;> (try split) <;> simp

theorem lane_Cut0 (a m : Int) (w : World) : Calls Tryd.prog 50 #[.int .u64 0, .int .i64 a, .int .i64 m] w fun e w' => e = .returned (.int .u64 0) ∧ ∃ k, w' = w.drewN k := by
  refine (lane_Cut 0 (by decide) a m w).mono ?_
  rintro e w' ⟨rfl, h⟩
  rw [sh_0]
  exact ⟨by simp, h⟩

theorem nil_cut (a m : Int) (w : World) (a0 : -9223372036854775808 ≤ a) (a1 : a ≤ 9223372036854775807) :
    Calls Tryd.prog 58 #[.pointer none, .int .i64 a, .int .i64 m] w fun e w' => e = .returned (.int .u64 0) ∧ ∃ k, w' = w.drewN k := by
  have hand := i64_and63 a
  obtain ⟨k, hk⟩ : ∃ k, a / 64 = k := ⟨_, rfl⟩
  obtain ⟨u, hu⟩ := Int.eq_ofNat_of_zero_le (show 0 ≤ a % 64 by omega)
  rw [hu] at hand
  have hu64 : u < 64 := by omega
  have k0 : -9223372036854775808 ≤ k := by omega
  have k1 : k ≤ 1099511627776000000 := by omega
  clear hu a0 a1
  go_enter Tryd.func58, Tryd.ntmps58
  go_wp2_with (first
    | (go_at_call 65; refine (nil_word _ _).mono ?_; rintro e w' ⟨rfl, rfl⟩)
    | (go_at_call 50; refine (lane_Cut0 _ _ _).mono ?_; rintro e w' ⟨rfl, m1, rfl⟩))
  go_ret
  exact ⟨rfl, _, rfl⟩

/-- Is the bit i of V one? -/
def bitI (V : Nat) (i : Int) : Bool := decide (0 ≤ i) && V.testBit i.toNat

theorem cut_bit (V : Nat) (i : Int) : (((cutV V i 1 : Nat) : Int) == 1) = bitI V i := by
  have h := cutV_bit V i 1 0
  have hl : cutV V i 1 < 2 := Nat.mod_lt _ (by decide)
  simp at h
  unfold bitI
  rw [← h]
  rcases (show cutV V i 1 = 0 ∨ cutV V i 1 = 1 by omega) with e | e <;> rw [e] <;> rfl

theorem rk_lim (V k K : Nat) (h : k ≤ K) (hK : K ≤ 1099511627776) : rk V (64 * k) ≤ 70368744177664 := Nat.le_trans (rk_le _ _) (by omega)

/-- A number that is not 0 has a lowest one. -/
theorem lowest (Y : Nat) (h : Y ≠ 0) : ∃ q m, Y = 2 ^ q * (2 * m + 1) := by
  induction Y using Nat.strongRecOn with
  | _ Y ih =>
    by_cases ho : Y % 2 = 1
    · exact ⟨0, Y / 2, by omega⟩
    · obtain ⟨q, m, e⟩ := ih (Y / 2) (by omega) (by omega)
      refine ⟨q + 1, m, ?_⟩
      rw [Nat.pow_succ, Nat.mul_comm (2 ^ q) 2, Nat.mul_assoc, ← e]
      omega
theorem lowest_bit (q m t : Nat) : (2 ^ q * (2 * m + 1)).testBit t = (decide (q ≤ t) && (2 * m + 1).testBit (t - q)) := by
  rw [Nat.mul_comm, ← Nat.shiftLeft_eq, Nat.testBit_shiftLeft]

theorem next_word (V j f k r B : Nat) (hf : f = j / 64) (hr : r = j % 64) (hB : B = if k = 0 then 2 ^ r - 1 else 0) (t : Nat) :
    (wd V (f + k) &&& (18446744073709551615 - B)).testBit t = (decide (t < 64) && (decide (j ≤ 64 * (f + k) + t) && V.testBit (64 * (f + k) + t))) := by
  have hr6 : r < 64 := by omega
  have hm : (18446744073709551615 - B).testBit t = (decide (t < 64) && !B.testBit t) := by
    have hB2 : B < 2 ^ 64 := by
      rw [hB]; split
      · have := Nat.pow_le_pow_right (show 0 < 2 by decide) (show r ≤ 64 by omega)
        have := Nat.two_pow_pos r
        omega
      · decide
    have := Nat.testBit_two_pow_sub_succ hB2 t
    rwa [show 2 ^ 64 - (B + 1) = 18446744073709551615 - B by omega] at this
  rw [Nat.testBit_and, wd_bit, hm]
  by_cases ht : t < 64
  · by_cases hk : k = 0
    · subst hk
      rw [if_pos rfl] at hB
      subst hB
      rw [Nat.testBit_two_pow_sub_one, Nat.add_zero]
      by_cases hh : t < r
      · have h2 : ¬ j ≤ 64 * f + t := by omega
        simp [ht, hh, h2]
      · have h2 : j ≤ 64 * f + t := by omega
        simp [ht, hh, h2]
    · rw [if_neg hk] at hB
      subst hB
      have h2 : j ≤ 64 * (f + k) + t := by omega
      simp [ht, h2]
  · simp [ht]

theorem next_done (V n j K f k : Nat) (i : Int) (hj : max i 0 = (j : Int)) (hn : n ≤ 64 * K) (hk : K ≤ f + k) (hp : ∀ p : Nat, j ≤ p → p < 64 * (f + k) → V.testBit p = false) : nextV V i n = -1 :=
  nextV_none V i n fun p hpn hip => hp p (by omega) (by omega)

theorem next_step (V j f k : Nat) (hw : ∀ t : Nat, Nat.testBit 0 t = (decide (t < 64) && (decide (j ≤ 64 * (f + k) + t) && V.testBit (64 * (f + k) + t)))) (hp : ∀ p : Nat, j ≤ p → p < 64 * (f + k) → V.testBit p = false) :
    ∀ p : Nat, j ≤ p → p < 64 * (f + (k + 1)) → V.testBit p = false := by
  intro p h1 h2
  by_cases h3 : p < 64 * (f + k)
  · exact hp p h1 h3
  · have := hw (p - 64 * (f + k))
    rw [show 64 * (f + k) + (p - 64 * (f + k)) = p by omega] at this
    simpa [show p - 64 * (f + k) < 64 by omega, h1] using this.symm

theorem next_found (V n j f k q m Y : Nat) (i : Int) (hj : max i 0 = (j : Int)) (hV : V < 2 ^ n) (hq : q < 64) (hY : Y = 2 ^ q * (2 * m + 1))
    (hw : ∀ t : Nat, Y.testBit t = (decide (t < 64) && (decide (j ≤ 64 * (f + k) + t) && V.testBit (64 * (f + k) + t)))) (hp : ∀ p : Nat, j ≤ p → p < 64 * (f + k) → V.testBit p = false) :
    ((f : Int) + (k : Int)) * 64 + (q : Int) = nextV V i n := by
  have h1 := hw q
  rw [hY, lowest_bit, Nat.sub_self, show (2 * m + 1).testBit 0 = true by simp] at h1
  have h2 := h1.symm
  simp only [Nat.le_refl, decide_true, Bool.and_true, Bool.and_eq_true, decide_eq_true_eq] at h2
  have hlt : 64 * (f + k) + q < n := by
    apply Nat.lt_of_not_le
    intro h
    rw [bit_above hV h] at h2
    simp at h2
  rw [nextV_of V i n (64 * (f + k) + q) hlt (by omega) h2.2.2 ?_]
  · omega
  · intro p h3 h4
    by_cases h5 : p < 64 * (f + k)
    · exact hp p (by omega) h5
    · have h6 := hw (p - 64 * (f + k))
      rw [hY, lowest_bit, show 64 * (f + k) + (p - 64 * (f + k)) = p by omega] at h6
      have : ¬ q ≤ p - 64 * (f + k) := by omega
      simpa [this, show p - 64 * (f + k) < 64 by omega, show j ≤ p by omega] using h6.symm

/-! ### slices.Clone and Words -/
/-- A slice of K words is read. -/
def Rd (w : World) (v : Value) (K : Nat) (f : Nat → Nat) : Prop :=
  (K = 0 ∧ ∃ ao cap, v = .slice ao 0 cap) ∨ ∃ g o cap, v = .slice (some ⟨g, o, none⟩) K cap ∧ g < w.heap.size ∧ ∀ j, j < K → w.cell? ⟨g, o + j, none⟩ = some (.int .u64 (f j : Nat))

theorem rd_of_own {w : World} {base : Nat} {v : Value} {K : Nat} {f : Nat → Nat} (h : w.ownsRow base 66 1 v K (u64s f K)) : Rd w v K f := by
  rcases h.2 with ⟨rfl, hn⟩ | ⟨g, cap, cur, rfl, _, hg, _⟩
  · exact .inl ⟨hn, _, _, rfl⟩
  · exact .inr ⟨g, 0, cap, rfl, lt_of_block hg, fun j hj => by rw [Nat.zero_add, h.cellAt j (by omega), u64s_get _ _ _ hj]⟩

set_option maxRecDepth 1000000 in
theorem clone (v : Value) (K : Nat) (f : Nat → Nat) (w : World) (h : Rd w v K f) (hK : K ≤ 1099511627776) :
    Calls Tryd.prog 52 #[v] w fun e w' => ∃ v', e = .returned v' ∧ w'.ownsRow w.heap.size 66 1 v' K (u64s f K) ∧ Keeps w.heap.size w w' := by
  obtain ⟨i0, hi, hz0, hz1, hz2⟩ := info_parts Tryd.info36
  have he : (w.alloc (.cells #[] 66)).ownsRow w.heap.size 66 1 (.slice (some ⟨w.heap.size, 0, none⟩) 0 0) 0 [] := World.ownsRow_lit w #[] 0 (Nat.le_refl _) (by decide) rfl
  have hke := (Keeps.refl w.heap.size w).alloc (Nat.le_refl _) (.cells #[] 66)
  rcases h with ⟨rfl, ao, cap, rfl⟩ | ⟨g, o, cap, rfl, hg, hc⟩
  · cases ao with
    | none =>
      clear he hke
      have hn : ∀ w : World, (binOp .eql 67 (.slice none 0 cap) (.slice none 0 0)).run Tryd.prog w = .ok (.bool true) w := fun _ => rfl
      go_enter Tryd.func52, Tryd.ntmps52
      go_wp2
      go_ret
      exact ⟨_, rfl, World.ownsRow_nil _ _ _ _, Keeps.refl _ _⟩
    | some a =>
      have hn : ∀ w : World, (binOp .eql 67 (.slice (some a) 0 cap) (.slice none 0 0)).run Tryd.prog w = .ok (.bool false) w := fun _ => rfl
      have HE : Hid _ := And.intro he hke
      clear he hke
      go_enter Tryd.func52, Tryd.ntmps52
      go_wp2_with (at_builtin; refine wpList_append_own _ rfl (.tmp 5) (.tmp 6) 67 rfl w.heap.size 66 i0 (.int .u64 0) 1 8 Tryd.underlying67 hi hz0 hz1 hz2 rfl (by decide) _ _ _ rfl HE.out.1 a 0 cap [] rfl rfl ?c1 ?c2 ?c3 ?c4 ?c5 ?_)
      case c1 => intro j y hj; simp at hj
      case c2 => intro y hy; simp at hy
      case c3 => decide
      case c4 => decide
      case c5 => simp
      · intro v' w1 hown hgrow _
        have hk := HE.out.2.grown hgrow (by simp) HE.out.1 (by decide)
        have HO : Hid _ := And.intro hown hk
        clear hown hgrow hk HE
        go_wp2
        go_ret
        exact ⟨_, rfl, HO.out.1, HO.out.2⟩
  · have hn : ∀ w : World, (binOp .eql 67 (.slice (some ⟨g, o, none⟩) K cap) (.slice none 0 0)).run Tryd.prog w = .ok (.bool false) w := fun _ => rfl
    have HE : Hid _ := And.intro he hke
    have hcc : ∀ (j : Nat) u, (u64s f K)[j]? = some u → (w.alloc (.cells #[] 66)).cell? ((⟨g, o, none⟩ : Addr).add j) = some u := by
      intro j u hu
      have hj : j < K := by have := (List.getElem?_eq_some_iff.1 hu).1; simpa [u64s_len] using this
      rw [u64s_get _ _ _ hj] at hu
      rw [Addr.add_lit, World.cell?_alloc_past _ _ _ hg, hc j hj]
      exact hu
    have HC : Hid _ := hcc
    clear he hke hc hcc
    go_enter Tryd.func52, Tryd.ntmps52
    go_wp2_with (at_builtin; refine wpList_append_own _ rfl (.tmp 5) (.tmp 6) 67 rfl w.heap.size 66 i0 (.int .u64 0) 1 8 Tryd.underlying67 hi hz0 hz1 hz2 rfl (by decide) _ _ _ rfl HE.out.1 ⟨g, o, none⟩ K cap (u64s f K) rfl (by rw [u64s_len, Nat.mul_one]) HC.out ?c2 ?c3 ?c4 ?c5 ?_)
    case c2 => intro y hy; simp [u64s] at hy; obtain ⟨_, _, rfl⟩ := hy; rfl
    case c3 => unfold maxLen; omega
    case c4 => omega
    case c5 => simp
    · intro v' w1 hown hgrow _
      have hk := HE.out.2.grown hgrow (by simp) HE.out.1 (by decide)
      have HO : Hid _ := And.intro hown hk
      clear hown hgrow hk HE
      go_wp2
      go_ret
      exact ⟨_, rfl, HO.out.1, HO.out.2⟩

theorem row_words (base b V n : Nat) (w : World) (h : RowAt w base b V n) : Calls Tryd.prog 33 #[.pointer (some ⟨b, 0, none⟩)] w fun e w' => ∃ v', e = .returned v' ∧ w'.ownsRow w.heap.size 66 1 v' (nw n) (u64s (wd V) (nw n)) ∧ Keeps w.heap.size w w' := by
  obtain ⟨v, hb, hown⟩ := h.mem
  have hl : nw n ≤ 1099511627776 := by have := h.len; unfold nw; omega
  obtain ⟨c0, c1, _, _⟩ := cells2 hb
  have hcl := clone v (nw n) (wd V) w (rd_of_own hown) hl
  obtain ⟨ao, K, cap, rfl⟩ : ∃ ao K cap, v = .slice ao K cap := by
    rcases hown.2 with ⟨h, _⟩ | ⟨g, cap, _, h, _⟩
    · exact ⟨_, _, _, h⟩
    · exact ⟨_, _, _, h⟩
  clear h hb hown
  go_enter Tryd.func33, Tryd.ntmps33
  go_wp2_with (go_at_call 52; refine hcl.mono ?_; rintro e w' ⟨v', rfl, hown, hk⟩; have HO : Hid _ := And.intro hown hk; clear hown hk)
  go_ret
  exact ⟨_, rfl, HO.out.1, HO.out.2⟩

theorem nil_words (w : World) : Calls Tryd.prog 33 #[.pointer none] w fun e w' => e = .returned (.slice none 0 0) ∧ w' = w := by
  go_enter Tryd.func33, Tryd.ntmps33
  go_wp2
  go_ret
  exact ⟨rfl, rfl⟩

end Go.Proofs.YtheieibkbeckkaaDoor

namespace Go.Proofs.YtheieibkbeckkaaDoor
open Go.RowKit

/-- What a row's pointer tells of its length; nil has none. -/
def PtrLen (w : World) (p : Value) (n : Nat) : Prop := (p = .pointer none ∧ n = 0) ∨ ∃ b, p = .pointer (some ⟨b, 0, none⟩) ∧ w.cell? ⟨b, 1, none⟩ = some (.int .i64 n)

theorem len_any (p : Value) (n : Nat) (w : World) (h : PtrLen w p n) : Calls Tryd.prog 36 #[p] w fun e w' => e = .returned (.int .i64 n) ∧ w' = w := by
  rcases h with ⟨rfl, rfl⟩ | ⟨b, rfl, c⟩
  · exact nil_len w
  · exact row_len b n w c

theorem PtrLen.row {w : World} {b V n : Nat} (h : RowRd w b V n) : PtrLen w (.pointer (some ⟨b, 0, none⟩)) n := .inr ⟨b, rfl, h.c1⟩
theorem PtrLen.none (w : World) : PtrLen w (.pointer none) 0 := .inl ⟨rfl, rfl⟩

end Go.Proofs.YtheieibkbeckkaaDoor

namespace Go.Proofs.YtheieibkbeckkaaDoor
open Go.RowKit

theorem above_zero (x u : Nat) (hu : u ≤ 64) (hx : x < 18446744073709551616) : x &&& (18446744073709551615 - (2 ^ u - 1)) = 0 ↔ x < 2 ^ u := by
  have hm : ∀ t, (18446744073709551615 - (2 ^ u - 1)).testBit t = (decide (t < 64) && !decide (t < u)) := by
    intro t
    have hB2 : 2 ^ u - 1 < 2 ^ 64 := by
      have := Nat.pow_le_pow_right (show 0 < 2 by decide) hu
      have := Nat.two_pow_pos u
      omega
    have := Nat.testBit_two_pow_sub_succ hB2 t
    rw [show 2 ^ 64 - (2 ^ u - 1 + 1) = 18446744073709551615 - (2 ^ u - 1) by omega, Nat.testBit_two_pow_sub_one] at this
    exact this
  constructor
  · intro h
    apply Nat.lt_pow_two_of_testBit
    intro i hi
    have h2 : (x &&& (18446744073709551615 - (2 ^ u - 1))).testBit i = false := by rw [h]; simp
    rw [Nat.testBit_and, hm] at h2
    by_cases h6 : i < 64
    · simpa [h6, show ¬ i < u by omega] using h2
    · exact bit_above (n := 64) hx (by omega)
  · intro h
    apply Nat.eq_of_testBit_eq
    intro i
    rw [Nat.testBit_and, hm, Nat.zero_testBit]
    by_cases h6 : i < u
    · simp [h6]
    · rw [bit_above h (by omega)]; rfl

theorem top_word (f : Nat → Nat) (n K : Nat) (hK : K = nw n) (hu : n % 64 ≠ 0) (hf : ∀ j, j < K → f j < 18446744073709551616) : ofW f K < 2 ^ n ↔ f (n / 64) < 2 ^ (n % 64) := by
  have hq : K = n / 64 + 1 := by unfold nw at hK; omega
  subst hq
  have hl := ofW_lt f (n / 64) fun j hj => hf j (by omega)
  have hn : 2 ^ n = 2 ^ (64 * (n / 64)) * 2 ^ (n % 64) := by rw [← Nat.pow_add]; congr 1; omega
  rw [ofW]
  constructor
  · intro h
    apply Nat.lt_of_not_le
    intro h2
    have := Nat.mul_le_mul_left (2 ^ (64 * (n / 64))) h2
    unfold cat at h
    omega
  · intro h
    have := cat_lt hl h
    rwa [show 64 * (n / 64) + n % 64 = n by omega] at this

theorem full_word (f : Nat → Nat) (n K : Nat) (hK : K = nw n) (hu : n % 64 = 0) (hf : ∀ j, j < K → f j < 18446744073709551616) : ofW f K < 2 ^ n := by
  have hl := ofW_lt f K hf
  rwa [show 64 * K = n by unfold nw at hK; omega] at hl

theorem rd_drewN {w : World} {v : Value} {K : Nat} {f : Nat → Nat} (h : Rd w v K f) (m : Nat) : Rd (w.drewN m) v K f := h

theorem shape_of {w : World} {base : Nat} {v : Value} {K e : Nat} {xs : List Value} (h : w.ownsRow base e 1 v K xs) : ∃ ao cap, v = .slice ao K cap := by
  rcases h.2 with ⟨h, hn⟩ | ⟨g, cap, _, h, _⟩
  · exact ⟨none, 0, by rw [h, hn]⟩
  · exact ⟨_, _, h⟩

/-- The row that has been made. -/
theorem of_end {w w1 : World} {K n : Nat} {f : Nat → Nat} {v : Value} (hown : w1.ownsRow w.heap.size 66 1 v K (u64s f K)) (hk : Keeps w.heap.size w w1) (hK : K = nw n) (hf : ∀ j, j < K → f j < 18446744073709551616) (hfit : ofW f K < 2 ^ n) (hn : n ≤ 1099511627776) :
    RowAt (w1.alloc (.cells #[v, .int .i64 n] 88)) w.heap.size w1.heap.size (ofW f K) n ∧ Keeps w.heap.size w (w1.alloc (.cells #[v, .int .i64 n] 88)) := by
  refine ⟨⟨hk.below.size, hfit, hn, v, heap_alloc_new _ _, ?_⟩, hk.alloc hk.below.size _⟩
  rw [← hK, u64s_congr (f := wd (ofW f K)) (g := f) fun i hi => ofW_wd f K hf i hi]
  exact hown.alloc _

end Go.Proofs.YtheieibkbeckkaaDoor
