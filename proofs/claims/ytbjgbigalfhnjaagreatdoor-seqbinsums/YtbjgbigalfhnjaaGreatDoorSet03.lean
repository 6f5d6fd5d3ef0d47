/-
  math/bits.TrailingZeros64 finds the lowest one of a word that is not 0.
  A row in memory: two cells (its words and how many bits), the words a row of cells of the call's own.
  bitrow's Add: bits come behind one another.
-/
import Derived.Test.YtbjgbigalfhnjaaGreatDoorSet02
import Derived.Lib.TrailingZeros
import Derived.Test.YtbjgbigalfhnjaaGreatDoorRows
import Derived.WalkKit
import Derived.ProofKit
import Derived.Lib.Walk
import Derived.OneCell
import Derived.BigQuiet
import Derived.Deep.Light
import Derived.Lib.ItoaNum
namespace Go.Proofs.YtbjgbigalfhnjaaGreatDoor
open Go.RowKit

/-- The library's table lies in its variable. -/
def TabIn (w : World) : Prop := ∀ j : Nat, j < 64 → w.cell? ⟨0, j, none⟩ = some (.int .u8 (Lib.deBruijn64tab.getD j 0 : Nat))

theorem TabIn.below {n₀ : Nat} {w w' : World} (h : TabIn w) (hb : Below n₀ w w') (h0 : 0 < n₀) : TabIn w' :=
  fun j hj => (hb.cell (p := ⟨0, j, none⟩) h0).trans (h j hj)

theorem tz_key (x a : Nat) (hx : x < 18446744073709551616) (hx0 : x ≠ 0) (hlow : x &&& (18446744073709551616 - x) = a) :
    IntKind.u64.wrap (bits .and .u64 (x : Int) (IntKind.u64.wrap (-(x : Int))) * 285870213051353865) / 288230376151711744 = ((a * 285870213051353865 % 18446744073709551616 / 288230376151711744 : Nat) : Int) := by
  have e1 : IntKind.u64.wrap (-(x : Int)) = ((18446744073709551616 - x : Nat) : Int) := by rw [IntKind.wrap_u64]; omega
  rw [e1, and_nat x _ hx (by omega), hlow, IntKind.wrap_u64]
  omega

theorem tz_core (x k idx : Nat) (w : World) (hx0 : ((x : Int) == 0) = false)
    (key : IntKind.u64.wrap (bits .and .u64 (x : Int) (IntKind.u64.wrap (-(x : Int))) * 285870213051353865) / 288230376151711744 = (idx : Int))
    (hi : idx < 64) (hk : k < 64) (hcell : w.cell? ⟨0, idx, none⟩ = some (.int .u8 k)) :
    Calls Tryz.prog 98 #[.int .u64 x] w fun e w' => e = .returned (.int .i64 k) ∧ w' = w := by
  go_enter Tryz.func98, Tryz.ntmps98
  go_wp2_with (simp only [key])
  go_ret
  exact ⟨rfl, rfl⟩

theorem tz (q m : Nat) (hx : 2 ^ q * (2 * m + 1) < 18446744073709551616) (hq : q < 64) (w : World) (hT : TabIn w) :
    Calls Tryz.prog 98 #[.int .u64 ((2 ^ q * (2 * m + 1) : Nat) : Int)] w fun e w' => e = .returned (.int .i64 q) ∧ w' = w := by
  have hlow := Lib.and_neg 64 q m hx
  obtain ⟨hi, htab⟩ := Lib.deBruijn64_at q hq
  have hp : 0 < 2 ^ q * (2 * m + 1) := Nat.mul_pos (Nat.two_pow_pos q) (by omega)
  generalize 2 ^ q * (2 * m + 1) = x at *
  have key := tz_key x (2 ^ q) hx (by omega) hlow
  have hc := hT _ hi
  rw [htab] at hc
  exact tz_core x q _ w (by simp; omega) key hi hq hc

end Go.Proofs.YtbjgbigalfhnjaaGreatDoor

namespace Go.Proofs.YtbjgbigalfhnjaaGreatDoor
open Go.RowKit

/-- The cells of K words. -/
def u64s (f : Nat → Nat) (K : Nat) : List Value := (List.range K).map fun i => Value.int .u64 (f i : Nat)
theorem u64s_len (f : Nat → Nat) (K : Nat) : (u64s f K).length = K := by simp [u64s]
theorem u64s_get (f : Nat → Nat) (K i : Nat) (h : i < K) : (u64s f K)[i]? = some (.int .u64 (f i : Nat)) := by simp [u64s, h]
theorem u64s_congr {f g : Nat → Nat} {K : Nat} (h : ∀ i, i < K → f i = g i) : u64s f K = u64s g K := by
  unfold u64s
  apply List.map_congr_left
  intro i hi
  rw [h i (by simpa using hi)]

/-- A row of n bits, the number V, lies at block b, from block 'base' on. -/
structure RowAt (w : World) (base b V n : Nat) : Prop where
  lo : base ≤ b
  fit : V < 2 ^ n
  len : n ≤ 1099511627776
  mem : ∃ v, w.heap[b]? = some (.cells #[v, .int .i64 n] 102 (0, 0)) ∧ w.ownsRow base 68 1 v (nw n) (u64s (wd V) (nw n))

theorem cells2 {w : World} {b : Nat} {u v : Value} {t : TypeId} (h : w.heap[b]? = some (.cells #[u, v] t (0, 0))) :
    w.cell? ⟨b, 0, none⟩ = some u ∧ w.cell? ⟨b, 1, none⟩ = some v ∧ w.frozen? ⟨b, 0, none⟩ = false ∧ w.frozen? ⟨b, 1, none⟩ = false := by
  simp [World.cell?, World.frozen?, h]

theorem set_0 {w : World} {b : Nat} {u v x : Value} {t : TypeId} (h : w.heap[b]? = some (.cells #[u, v] t (0, 0))) : (w.setCell ⟨b, 0, none⟩ x).heap[b]? = some (.cells #[x, v] t (0, 0)) := by
  simpa using heap_setCell_same w b 0 #[u, v] t x h
theorem set_1 {w : World} {b : Nat} {u v x : Value} {t : TypeId} (h : w.heap[b]? = some (.cells #[u, v] t (0, 0))) : (w.setCell ⟨b, 1, none⟩ x).heap[b]? = some (.cells #[u, x] t (0, 0)) := by
  simpa using heap_setCell_same w b 1 #[u, v] t x h
theorem set_off {w : World} {b : Nat} {a : Addr} {x : Value} {o : Obj} (h : w.heap[b]? = some o) (hne : b ≠ a.block) : (w.setCell a x).heap[b]? = some o := by
  rw [heap_setCell_other w a b x hne]; exact h

/-- From w to w' nothing below 'base' has turned, and no block of bools. -/
structure Keeps (base : Nat) (w w' : World) : Prop where
  below : Below base w w'
  bools : ∀ (k : Nat) (cs : Array Value) (z : Nat × Nat), w.heap[k]? = some (Obj.cells cs 4 z) → w'.heap[k]? = some (Obj.cells cs 4 z)

theorem Keeps.refl (base : Nat) (w : World) : Keeps base w w := ⟨Below.refl _ _, fun _ _ _ h => h⟩
theorem Keeps.trans {base : Nat} {a b c : World} (h : Keeps base a b) (k : Keeps base b c) : Keeps base a c := ⟨h.below.trans k.below, fun _ _ _ x => k.bools _ _ _ (h.bools _ _ _ x)⟩
theorem Keeps.drew {base : Nat} {a w : World} (h : Keeps base a w) : Keeps base a w.drew := ⟨h.below.drew, h.bools⟩
theorem Keeps.drewN {base : Nat} {a w : World} (h : Keeps base a w) (m : Nat) : Keeps base a (w.drewN m) := ⟨⟨h.below.os, h.below.tape, h.below.output, h.below.size, h.below.block⟩, h.bools⟩
theorem Keeps.alloc {base : Nat} {a w : World} (h : Keeps base a w) (hB : base ≤ w.heap.size) (o : Obj) : Keeps base a (w.alloc o) :=
  ⟨h.below.alloc hB o, fun k cs z x => by
    have hx := h.bools k cs z x
    rw [Below.heap_alloc _ _ _ (lt_of_block hx)]; exact hx⟩
theorem Keeps.setCell {base : Nat} {a w : World} (h : Keeps base a w) {p : Addr} (hp : base ≤ p.block) {cs : Array Value} {t : TypeId} {z : Nat × Nat} (hb : w.heap[p.block]? = some (.cells cs t z)) (ht : t ≠ 4) (u : Value) : Keeps base a (w.setCell p u) :=
  ⟨h.below.setCell hp u, fun k cs' z' x => by
    have hx := h.bools k cs' z' x
    refine set_off hx fun e => ?_
    rw [← e, hx] at hb
    simp at hb
    exact ht hb.2.1.symm⟩
theorem Keeps.grown {base : Nat} {a w w' : World} {v : Value} {n : Nat} {xs : List Value} {t : TypeId} (h : Keeps base a w) (hg : w.grownBy w' v.ownBlock) (hB : base ≤ w.heap.size) (hown : w.ownsRow base t 1 v n xs) (ht : t ≠ 4) : Keeps base a w' :=
  ⟨h.below.grown hg hB (fun k hk => (hown.lt k hk).1), fun k cs' z' x => by
    have hx := h.bools k cs' z' x
    rw [hg.block k (lt_of_block hx) (fun e => ?_)]
    · exact hx
    · rcases hown.2 with ⟨rfl, _⟩ | ⟨g, cap, cur, rfl, _, hh, _⟩
      · simp [Value.ownBlock] at e
      · simp [Value.ownBlock] at e
        subst e
        rw [hx] at hh
        simp at hh
        exact ht hh.2.1.symm⟩

/-- Likewise, and of all blocks that were there those in S alone have turned. -/
structure KeepsO (base : Nat) (S : Nat → Prop) (w w' : World) : Prop extends Keeps base w w' where
  only : ∀ k, k < w.heap.size → ¬ S k → w'.heap[k]? = w.heap[k]?

theorem KeepsO.refl (base : Nat) (S : Nat → Prop) (w : World) : KeepsO base S w w := ⟨Keeps.refl _ _, fun _ _ _ => rfl⟩
theorem KeepsO.drew {base : Nat} {S : Nat → Prop} {a w : World} (h : KeepsO base S a w) : KeepsO base S a w.drew := ⟨h.toKeeps.drew, h.only⟩
theorem KeepsO.drewN {base : Nat} {S : Nat → Prop} {a w : World} (h : KeepsO base S a w) (m : Nat) : KeepsO base S a (w.drewN m) := ⟨h.toKeeps.drewN m, h.only⟩
theorem KeepsO.alloc {base : Nat} {S : Nat → Prop} {a w : World} (h : KeepsO base S a w) (hB : base ≤ w.heap.size) (o : Obj) : KeepsO base S a (w.alloc o) :=
  ⟨h.toKeeps.alloc hB o, fun k hk hs => by rw [Below.heap_alloc _ _ _ (Nat.lt_of_lt_of_le hk h.below.size)]; exact h.only k hk hs⟩
theorem KeepsO.setCell {base : Nat} {S : Nat → Prop} {a w : World} (h : KeepsO base S a w) {p : Addr} (hp : base ≤ p.block) {cs : Array Value} {t : TypeId} {z : Nat × Nat} (hb : w.heap[p.block]? = some (.cells cs t z)) (ht : t ≠ 4) (hS : S p.block) (u : Value) : KeepsO base S a (w.setCell p u) :=
  ⟨h.toKeeps.setCell hp hb ht u, fun k hk hs => by
    have hne : k ≠ p.block := fun e => hs (by rw [e]; exact hS)
    rw [Below.heap_setCell _ _ _ _ hne]; exact h.only k hk hs⟩
theorem KeepsO.grown {base : Nat} {S : Nat → Prop} {a w w' : World} {v : Value} {n : Nat} {xs : List Value} {t : TypeId} (h : KeepsO base S a w) (hg : w.grownBy w' v.ownBlock) (hB : base ≤ w.heap.size) (hown : w.ownsRow base t 1 v n xs) (ht : t ≠ 4) (hS : ∀ k, v.ownBlock = some k → S k) : KeepsO base S a w' :=
  ⟨h.toKeeps.grown hg hB hown ht, fun k hk hs => by rw [hg.block k (Nat.lt_of_lt_of_le hk h.below.size) (fun e => hs (hS k e.symm))]; exact h.only k hk hs⟩

theorem own_ne {w : World} {base b n : Nat} {v : Value} {xs : List Value} {cs : Array Value} {z : Nat × Nat} {t e : TypeId} (hb : w.heap[b]? = some (.cells cs t z)) (hown : w.ownsRow base e 1 v n xs) (hte : t ≠ e) : v.ownBlock ≠ some b := by
  intro h
  rcases hown.2 with ⟨rfl, _⟩ | ⟨g, cap, cur, rfl, _, hh, _⟩
  · simp [Value.ownBlock] at h
  · simp [Value.ownBlock] at h
    subst h
    rw [hb] at hh
    simp at hh
    exact hte hh.2.1

theorem new_row (w : World) : Calls Tryz.prog 49 #[] w fun e w' => e = .returned (.pointer (some ⟨w.heap.size, 0, none⟩)) ∧ w' = w.alloc (.cells #[.slice none 0 0, .int .i64 0] 102) := by
  go_enter Tryz.func49, Tryz.ntmps49
  go_wp2
  go_ret
  exact ⟨rfl, rfl⟩

theorem wordsOf (n : Nat) (hn : n ≤ 9223372036854775807) (w : World) : Calls Tryz.prog 70 #[.int .i64 n] w fun e w' => e = .returned (.int .i64 (nw n : Nat)) ∧ w' = w := by
  go_enter Tryz.func70, Tryz.ntmps70
  go_wp2
  all_goals go_ret
  · rename_i h
    have h1 : (n : Int) % 64 ≠ 0 := by simpa using h
    have : (n : Int) / 64 + 1 = ((nw n : Nat) : Int) := by unfold nw; omega
    exact ⟨by simp [this], rfl⟩
  · rename_i h
    have h1 : (n : Int) % 64 = 0 := by simpa using h
    have : (n : Int) / 64 = ((nw n : Nat) : Int) := by unfold nw; omega
    exact ⟨by simp [this], rfl⟩

theorem row_len (b n : Nat) (w : World) (h1 : w.cell? ⟨b, 1, none⟩ = some (.int .i64 n)) : Calls Tryz.prog 41 #[.pointer (some ⟨b, 0, none⟩)] w fun e w' => e = .returned (.int .i64 n) ∧ w' = w := by
  go_enter Tryz.func41, Tryz.ntmps41
  go_wp2
  go_ret
  exact ⟨rfl, rfl⟩

theorem nil_len (w : World) : Calls Tryz.prog 41 #[.pointer none] w fun e w' => e = .returned (.int .i64 0) ∧ w' = w := by
  go_enter Tryz.func41, Tryz.ntmps41
  go_wp2
  go_ret
  exact ⟨rfl, rfl⟩

end Go.Proofs.YtbjgbigalfhnjaaGreatDoor

namespace Go.Proofs.YtbjgbigalfhnjaaGreatDoor
open Go.RowKit

theorem Tryz.info36 : (Tryz.prog.info? 68).map (fun i => (i.zero, i.size, i.bytes)) = some (some (.int .u64 0), 1, 8) := by kernel_rfl

/-- The word in which the last bit stands has taken what it could. -/
theorem mid_world {w : World} {base b g K cap n V x : Nat} {L : Value} (hK : K = nw n) (hb : w.heap[b]? = some (.cells #[.slice (some ⟨g, 0, none⟩) K cap, .int .i64 n] 102 (0, 0))) (hlo : base ≤ b) (hV : V < 2 ^ n)
    (hown : w.ownsRow base 68 1 (.slice (some ⟨g, 0, none⟩) K cap) K (u64s (wd V) K)) (Y : Value) (hL : L = .int .u64 (wd (cat V n x) (n / 64) : Nat)) :
    (((w.setCell ⟨g, n / 64, none⟩ L).setCell ⟨b, 1, none⟩ Y).drew).heap[b]? = some (.cells #[.slice (some ⟨g, 0, none⟩) K cap, Y] 102 (0, 0)) ∧
    (((w.setCell ⟨g, n / 64, none⟩ L).setCell ⟨b, 1, none⟩ Y).drew).ownsRow base 68 1 (.slice (some ⟨g, 0, none⟩) K cap) K (u64s (wd (cat V n x)) K) ∧
    KeepsO base (fun k => k = b ∨ (Value.slice (some ⟨g, 0, none⟩) K cap).ownBlock = some k) w (((w.setCell ⟨g, n / 64, none⟩ L).setCell ⟨b, 1, none⟩ Y).drew) := by
  have hne := own_ne hb hown (by decide)
  have hgb : g ≠ b := fun e => hne (by simp [Value.ownBlock, e])
  obtain ⟨h1, h2⟩ := hown.stored (n / 64) L
  have hb1 : (w.setCell ⟨g, n / 64, none⟩ L).heap[b]? = _ := set_off hb (Ne.symm hgb)
  have hl : (u64s (wd V) K).set (n / 64) L = u64s (wd (cat V n x)) K := by
    apply List.ext_getElem?
    intro i
    by_cases hi : i < K
    · rw [u64s_get _ _ _ hi, List.getElem?_set]
      by_cases h : n / 64 = i
      · subst h
        simp [u64s_len, hi, hL]
      · rw [if_neg h, u64s_get _ _ _ hi, wd_cat_low x hV i (by unfold nw at hK; omega)]
    · rw [List.getElem?_eq_none (by simp [u64s_len]; omega), List.getElem?_eq_none (by simp [u64s_len]; omega)]
  rw [hl] at h1
  obtain ⟨cur, hcur, hglo⟩ : ∃ cur, w.heap[g]? = some (.cells cur 68 (0, 0)) ∧ base ≤ g := by
    rcases hown.2 with ⟨h, _⟩ | ⟨g', cap', cur, h, hlo, hh, _⟩
    · simp at h
    · simp at h
      obtain ⟨rfl, rfl⟩ := h
      exact ⟨cur, hh, hlo⟩
  refine ⟨set_1 hb1, ownsRow_setCell_other h1 (by simpa [Value.ownBlock] using hgb) _, ?_⟩
  exact (((KeepsO.refl base _ w).setCell (p := ⟨g, n / 64, none⟩) hglo hcur (by decide) (.inr rfl) _).setCell (p := ⟨b, 1, none⟩) hlo hb1 (by decide) (.inl rfl) _).drew

/-- The words have got a new one behind them. -/
theorem grow_world {w w3 w4 : World} {base b K n' : Nat} {v v' Y : Value} {xs xs' : List Value} {o : Obj} {S : Nat → Prop} (hk : KeepsO base S w w3) (hSb : S b) (hSv : ∀ k, v.ownBlock = some k → S k) (hb : w3.heap[b]? = some (.cells #[v, Y] 102 (0, 0))) (hlo : base ≤ b) (hsz : base ≤ w3.heap.size)
    (hown : w3.ownsRow base 68 1 v K xs) (hown4 : w4.ownsRow base 68 1 v' n' xs') (hg : (w3.alloc o).grownBy w4 v.ownBlock) :
    w4.heap[b]? = some (.cells #[v, Y] 102 (0, 0)) ∧ (w4.setCell ⟨b, 0, none⟩ v').heap[b]? = some (.cells #[v', Y] 102 (0, 0)) ∧ (w4.setCell ⟨b, 0, none⟩ v').ownsRow base 68 1 v' n' xs' ∧ KeepsO base S w (w4.setCell ⟨b, 0, none⟩ v') := by
  have hlt := lt_of_block hb
  have ha : (w3.alloc o).heap[b]? = some (.cells #[v, Y] 102 (0, 0)) := by rw [Below.heap_alloc _ _ _ hlt]; exact hb
  have h4 : w4.heap[b]? = some (.cells #[v, Y] 102 (0, 0)) := by
    rw [hg.block b (lt_of_block ha) (Ne.symm (own_ne hb hown (by decide)))]; exact ha
  have hka : KeepsO base S w (w3.alloc o) := hk.alloc hsz o
  have hk4 : KeepsO base S w w4 := hka.grown hg (by simp; omega) (hown.alloc o) (by decide) hSv
  exact ⟨h4, set_0 h4, ownsRow_setCell_other hown4 (own_ne h4 hown4 (by decide)) _, hk4.setCell (p := ⟨b, 0, none⟩) hlo h4 (by decide) hSb _⟩

theorem u64s_succ (f : Nat → Nat) (K : Nat) : u64s f (K + 1) = u64s f K ++ [.int .u64 (f K : Nat)] := by simp [u64s, List.range_succ]

set_option maxHeartbeats 800000 in
set_option maxRecDepth 1000000 in
theorem add_mid (base b g K cap n x N V : Nat) (w : World) (hK : K = nw n) (hb : w.heap[b]? = some (.cells #[.slice (some ⟨g, 0, none⟩) K cap, .int .i64 n] 102 (0, 0))) (hlo : base ≤ b) (hsz : base ≤ w.heap.size) (hV : V < 2 ^ n)
    (hown : w.ownsRow base 68 1 (.slice (some ⟨g, 0, none⟩) K cap) K (u64s (wd V) K)) (hu0 : n % 64 ≠ 0) (hN : N ≤ 64) (hx : x < 18446744073709551616) (hxN : Lib.bitLen x ≤ N) (hnL : n ≤ 1099511627776) :
    Calls Tryz.prog 75 #[.pointer (some ⟨b, 0, none⟩), .int .u64 x, .int .i64 N] w fun e w' => e = .returned (.int .i64 0) ∧
      (∃ v, w'.heap[b]? = some (.cells #[v, .int .i64 ((n + N : Nat) : Int)] 102 (0, 0)) ∧ w'.ownsRow base 68 1 v (nw (n + N)) (u64s (wd (cat V n x)) (nw (n + N)))) ∧ KeepsO base (fun k => k = b ∨ (Value.slice (some ⟨g, 0, none⟩) K cap).ownBlock = some k) w w' := by
  obtain ⟨c0, c1, f0, f1⟩ := cells2 hb
  obtain ⟨q, hq⟩ : ∃ q, n / 64 = q := ⟨_, rfl⟩
  obtain ⟨u, hu⟩ : ∃ u, n % 64 = u := ⟨_, rfl⟩
  have hqK : q < K := by unfold nw at hK; omega
  have cq : w.cell? ⟨g, q, none⟩ = some (.int .u64 (wd V q : Nat)) := by rw [hown.cellAt q (by omega), u64s_get _ _ _ hqK]
  have fq := hown.frozenAt q
  have hgb : ¬ g = b := fun e => own_ne hb hown (by decide) (by simp [Value.ownBlock, e])
  have hd : (n : Int) / 64 = q := by omega
  have hm : (n : Int) % 64 = u := by omega
  have hub : u < 64 := by omega
  have hu1 : u ≠ 0 := by omega
  have hL : Value.int .u64 (bits .or .u64 ((wd V q : Nat) : Int) (IntKind.u64.wrap ((x : Int) * 2 ^ u))) = .int .u64 (wd (cat V n x) (n / 64) : Nat) := by
    have e1 : IntKind.u64.wrap ((x : Int) * 2 ^ u) = ((x * 2 ^ u % 18446744073709551616 : Nat) : Int) := by
      rw [IntKind.wrap_u64, Int.natCast_emod, Int.natCast_mul, Int.natCast_pow]; rfl
    rw [e1, u64_or_nat _ _ (wd_lt _ _) (Nat.mod_lt _ (by decide)), wd_cat_mid x hV, hq, hu]
  have mw := mid_world (x := x) hK hb hlo hV hown (.int .i64 ((n : Int) + (N : Int))) hL
  rw [hq] at mw
  have HH : Hid (K = nw n ∧ n / 64 = q ∧ n % 64 = u ∧ V < 2 ^ n ∧ n % 64 ≠ 0) := ⟨hK, hq, hu, hV, hu0⟩
  clear hK hq hu hV hb hown hL hu0
  have hwo : ∀ w, Calls Tryz.prog 70 #[.int .i64 ((n : Int) + (N : Int))] w fun e w' => e = .returned (.int .i64 (nw (n + N) : Nat)) ∧ w' = w := fun w => wordsOf (n + N) (by omega) w
  have MW : Hid _ := mw
  clear mw
  go_enter Tryz.func75, Tryz.ntmps75
  go_wp2_with (go_at_call 74; refine (lane_Width x hx _).mono ?_; rintro e w' ⟨rfl, rfl⟩)
  go_region
  all_goals go_wp2_with fail
  obtain ⟨hb2, hown2, hkeep⟩ := MW.out
  generalize ((w'.setCell ⟨g, q, none⟩ (.int .u64 (bits .or .u64 ((wd V q : Nat) : Int) (IntKind.u64.wrap ((x : Int) * 2 ^ u))))).setCell ⟨b, 1, none⟩ (.int .i64 ((n : Int) + (N : Int)))).drew = w2 at *
  obtain ⟨d0, d1, e0, e1⟩ := cells2 hb2
  go_quiet ((go_at_call 70; exact Calls.quiet_of_same (hwo _)))
  have hb3 : (w2.drewN nq).heap[b]? = some (.cells #[.slice (some ⟨g, 0, none⟩) K cap, .int .i64 ((n : Int) + (N : Int))] 102 (0, 0)) := hb2
  have hown3 : (w2.drewN nq).ownsRow base 68 1 (.slice (some ⟨g, 0, none⟩) K cap) K (u64s (wd (cat V n x)) K) := hown2
  have hkeep3 := hkeep.drewN nq
  clear hwo MW hb2 hown2 hkeep d0 d1 e0 e1
  generalize w2.drewN nq = w3 at *
  obtain ⟨d0, d1, e0, e1⟩ := cells2 hb3
  have hsz3 : base ≤ w3.heap.size := Nat.le_trans hsz hkeep3.below.size
  have hX : ((x : Int) / 2 ^ (64 - u)) = ((x / 2 ^ (64 - u) : Nat) : Int) := by rw [Int.natCast_ediv, Int.natCast_pow]; rfl
  by_cases hov : K < nw (n + N)
  · have hK1 : nw (n + N) = K + 1 := by
      have := HH.out.1
      unfold nw at hov this ⊢
      omega
    have HB : Hid _ := And.intro hb3 hown3
    have hblt := lt_of_block hb3
    have hB1 : Hid (u64s (wd (cat V n x)) K ++ [.int .u64 ((x : Int) / 2 ^ (64 - u))] = u64s (wd (cat V n x)) (K + 1)) := by
      have hn := wd_cat_new HH.out.2.2.2.1 hx HH.out.2.2.2.2
      have h64 : K = n / 64 + 1 := by
        have := HH.out.1
        have := HH.out.2.2.2.2
        unfold nw at *
        omega
      have e : u64s (wd (cat V n x)) (K + 1) = u64s (wd (cat V n x)) K ++ [.int .u64 (wd (cat V n x) K : Nat)] := by simp [u64s, List.range_succ]
      rw [e, h64, hn, HH.out.2.2.1, hX]
      rfl
    clear hb3 hown3 hX
    obtain ⟨i0, hi, hz0, hz1, hz2⟩ := info_parts Tryz.info36
    go_wp2_with (at_builtin; refine wpList_append_own _ rfl (.tmp 70) (.tmp 72) 82 rfl base 68 i0 (.int .u64 0) 1 8 Tryz.underlying82 hi hz0 hz1 hz2 rfl (by decide) _ _ _ rfl (HB.out.2.alloc _) ⟨w3.heap.size, 0, none⟩ 1 1 [.int .u64 ((x : Int) / 2 ^ (64 - u))] rfl rfl ?c1 ?c2 ?c3 ?c4 ?c5 ?_)
    case c1 => intro j y hj; match j, hj with | 0, hj => simp at hj; subst hj; simp [Addr.add]
    case c2 => intro y hy; simp at hy; subst hy; rfl
    case c3 => have := HH.out.1; unfold nw at this; unfold maxLen; omega
    case c4 => have := HH.out.1; unfold nw at this; omega
    case c5 => simp; omega
    · intro v' w4 hown4 hgrow _
      obtain ⟨hb3, hown3⟩ := HB.out
      obtain ⟨h4, h5, hown5, hkeep5⟩ := grow_world hkeep3 (.inl rfl) (fun _ h => .inr h) hb3 hlo hsz3 hown3 hown4 hgrow
      rw [hB1.out] at hown5
      obtain ⟨g', cap', rfl⟩ : ∃ g cap', v' = .slice (some ⟨g, 0, none⟩) (K + 1) cap' := by
        rcases hown4.2 with ⟨_, h⟩ | ⟨g, cap', _, h, _⟩
        · omega
        · exact ⟨g, cap', h⟩
      obtain ⟨k0, k1, l0, l1⟩ := cells2 h4
      have H5 : Hid _ := And.intro h5 hown5
      clear hb3 hown3 hown4 hgrow h4 h5 hown5 HB hB1
      go_wp2
      go_ret
      refine ⟨rfl, ⟨_, H5.out.1, ?_⟩, hkeep5⟩
      rw [hK1]
      exact H5.out.2
  · have hK1 : nw (n + N) = K := by
      have := HH.out.1
      unfold nw at hov this ⊢
      omega
    have HB : Hid _ := And.intro hb3 hown3
    clear hb3 hown3 hX
    go_wp2
    go_ret
    refine ⟨rfl, ⟨_, HB.out.1, ?_⟩, hkeep3⟩
    rw [hK1]
    exact HB.out.2

set_option maxHeartbeats 800000 in
set_option maxRecDepth 1000000 in
theorem add_first (base b K n x N V : Nat) (v : Value) (w : World) (hK : K = nw n) (hb : w.heap[b]? = some (.cells #[v, .int .i64 n] 102 (0, 0))) (hlo : base ≤ b) (hsz : base ≤ w.heap.size) (hV : V < 2 ^ n)
    (hown : w.ownsRow base 68 1 v K (u64s (wd V) K)) (hu0 : n % 64 = 0) (hN : N ≤ 64) (hx : x < 18446744073709551616) (hxN : Lib.bitLen x ≤ N) (hnL : n ≤ 1099511627776) :
    Calls Tryz.prog 75 #[.pointer (some ⟨b, 0, none⟩), .int .u64 x, .int .i64 N] w fun e w' => e = .returned (.int .i64 0) ∧
      (∃ v, w'.heap[b]? = some (.cells #[v, .int .i64 ((n + N : Nat) : Int)] 102 (0, 0)) ∧ w'.ownsRow base 68 1 v (nw (n + N)) (u64s (wd (cat V n x)) (nw (n + N)))) ∧ KeepsO base (fun k => k = b ∨ v.ownBlock = some k) w w' := by
  obtain ⟨ao, cap, rfl⟩ : ∃ ao cap, v = .slice ao K cap := by
    rcases hown.2 with ⟨h, h2⟩ | ⟨g, cap, _, h, _⟩
    · exact ⟨none, 0, by rw [h, h2]⟩
    · exact ⟨_, _, h⟩
  obtain ⟨c0, c1, f0, f1⟩ := cells2 hb
  have hm : (n : Int) % 64 = 0 := by omega
  have hKn : K = n / 64 := by unfold nw at hK; omega
  have hlist : Hid (u64s (wd V) K ++ [.int .u64 (x : Int)] = u64s (wd (cat V n x)) (K + 1) ∧ u64s (wd V) K = u64s (wd (cat V n x)) K) := by
    have e : u64s (wd V) K = u64s (wd (cat V n x)) K := u64s_congr fun i hi => (wd_cat_low x hV i (by omega)).symm
    refine ⟨?_, e⟩
    rw [u64s_succ, hKn, wd_cat_first hV hx hu0, ← hKn, e]
  have hwo : ∀ w, Calls Tryz.prog 70 #[.int .i64 ((n : Int) + (N : Int))] w fun e w' => e = .returned (.int .i64 (nw (n + N) : Nat)) ∧ w' = w := fun w => wordsOf (n + N) (by omega) w
  have hs1 : (w.setCell ⟨b, 1, none⟩ (.int .i64 ((n : Int) + (N : Int)))).heap[b]? = _ := set_1 hb
  have hs2 := ownsRow_setCell_other hown (a := ⟨b, 1, none⟩) (own_ne hb hown (by decide)) (.int .i64 ((n : Int) + (N : Int)))
  have hs3 := (KeepsO.refl base (fun k => k = b ∨ (Value.slice ao K cap).ownBlock = some k) w).setCell (p := ⟨b, 1, none⟩) hlo hb (by decide) (.inl rfl) (.int .i64 ((n : Int) + (N : Int)))
  have MW : Hid _ := And.intro hs1 (And.intro hs2 hs3)
  have HH : Hid (K = nw n ∧ K = n / 64) := ⟨hK, hKn⟩
  clear hs1 hs2 hs3 hb hown hK hKn hV
  go_enter Tryz.func75, Tryz.ntmps75
  go_wp2_with (go_at_call 74; refine (lane_Width x hx _).mono ?_; rintro e w' ⟨rfl, rfl⟩)
  obtain ⟨hb2, hown2, hkeep⟩ := MW.out
  clear MW
  generalize (w'.setCell ⟨b, 1, none⟩ (.int .i64 ((n : Int) + (N : Int)))) = w2 at *
  obtain ⟨d0, d1, e0, e1⟩ := cells2 hb2
  go_quiet ((go_at_call 70; exact Calls.quiet_of_same (hwo _)))
  have hb3 : (w2.drewN nq).heap[b]? = some (.cells #[.slice ao K cap, .int .i64 ((n : Int) + (N : Int))] 102 (0, 0)) := hb2
  have hown3 : (w2.drewN nq).ownsRow base 68 1 (.slice ao K cap) K (u64s (wd V) K) := hown2
  have hkeep3 := hkeep.drewN nq
  clear hwo hb2 hown2 hkeep d0 d1 e0 e1
  generalize w2.drewN nq = w3 at *
  obtain ⟨d0, d1, e0, e1⟩ := cells2 hb3
  have hsz3 : base ≤ w3.heap.size := Nat.le_trans hsz hkeep3.below.size
  by_cases hov : K < nw (n + N)
  · have hK1 : nw (n + N) = K + 1 := by
      have := HH.out.1
      unfold nw at hov this ⊢
      omega
    have HB : Hid _ := And.intro hb3 hown3
    have hblt := lt_of_block hb3
    clear hb3 hown3
    obtain ⟨i0, hi, hz0, hz1, hz2⟩ := info_parts Tryz.info36
    go_wp2_with (at_builtin; refine wpList_append_own _ rfl (.tmp 70) (.tmp 72) 82 rfl base 68 i0 (.int .u64 0) 1 8 Tryz.underlying82 hi hz0 hz1 hz2 rfl (by decide) _ _ _ rfl (HB.out.2.alloc _) ⟨w3.heap.size, 0, none⟩ 1 1 [.int .u64 (x : Int)] rfl rfl ?c1 ?c2 ?c3 ?c4 ?c5 ?_)
    case c1 => intro j y hj; match j, hj with | 0, hj => simp at hj; subst hj; simp [Addr.add]
    case c2 => intro y hy; simp at hy; subst hy; rfl
    case c3 => have := HH.out.1; unfold nw at this; unfold maxLen; omega
    case c4 => have := HH.out.1; unfold nw at this; omega
    case c5 => simp; omega
    · intro v' w4 hown4 hgrow _
      obtain ⟨hb3, hown3⟩ := HB.out
      obtain ⟨h4, h5, hown5, hkeep5⟩ := grow_world hkeep3 (.inl rfl) (fun _ h => .inr h) hb3 hlo hsz3 hown3 hown4 hgrow
      rw [hlist.out.1] at hown5
      obtain ⟨g', cap', rfl⟩ : ∃ g cap', v' = .slice (some ⟨g, 0, none⟩) (K + 1) cap' := by
        rcases hown4.2 with ⟨_, h⟩ | ⟨g, cap', _, h, _⟩
        · omega
        · exact ⟨g, cap', h⟩
      obtain ⟨k0, k1, l0, l1⟩ := cells2 h4
      have H5 : Hid _ := And.intro h5 hown5
      clear hb3 hown3 hown4 hgrow h4 h5 hown5 HB
      go_wp2
      go_ret
      refine ⟨rfl, ⟨_, H5.out.1, ?_⟩, hkeep5⟩
      rw [hK1]
      exact H5.out.2
  · have hK1 : nw (n + N) = K := by
      have := HH.out.1
      unfold nw at hov this ⊢
      omega
    have HB : Hid _ := And.intro hb3 hown3
    clear hb3 hown3
    go_wp2
    go_ret
    refine ⟨rfl, ⟨_, HB.out.1, ?_⟩, hkeep3⟩
    rw [hK1, ← hlist.out.2]
    exact HB.out.2

/-- What Add tells. -/
def addErr (x : Nat) (N : Int) : Int := if N < 0 ∨ 64 < N then 1 else if N.toNat < Lib.bitLen x then 8 else 0
def addV (V n x : Nat) (N : Int) : Nat := if addErr x N = 0 then cat V n x else V
def addN (n x : Nat) (N : Int) : Nat := if addErr x N = 0 then n + N.toNat else n

theorem width_lt (x k : Nat) (hx : x < 18446744073709551616) (h : Lib.bitLen x ≤ k) : x < 2 ^ k := by
  by_cases h0 : x = 0
  · subst h0; exact Nat.two_pow_pos k
  · exact Nat.lt_of_lt_of_le (Lib.bitLenAux_bounds 64 x hx h0).2.2 (Nat.pow_le_pow_right (by decide) h)

/-- The blocks of the row at b. -/
def RowBlk (w : World) (b k : Nat) : Prop := k = b ∨ ∃ v y, w.heap[b]? = some (.cells #[v, y] 102 (0, 0)) ∧ v.ownBlock = some k

set_option maxRecDepth 1000000 in
theorem row_add_o (base b V n x : Nat) (N : Int) (w : World) (h : RowAt w base b V n) (hsz : base ≤ w.heap.size) (hx : x < 18446744073709551616) (hn : n + 64 ≤ 1099511627776) :
    Calls Tryz.prog 75 #[.pointer (some ⟨b, 0, none⟩), .int .u64 x, .int .i64 N] w fun e w' => e = .returned (.int .i64 (addErr x N)) ∧ RowAt w' base b (addV V n x N) (addN n x N) ∧ KeepsO base (RowBlk w b) w w' := by
  by_cases h1 : N < 0 ∨ 64 < N
  · have he : addErr x N = 1 := by simp [addErr, h1]
    have h' : RowAt w base b (addV V n x N) (addN n x N) := by simp [addV, addN, he]; exact h
    rw [he]
    have : Hid _ := And.intro h h'
    clear h he h'
    rcases h1 with h1 | h1
    all_goals
      go_enter Tryz.func75, Tryz.ntmps75
      go_wp2
      go_ret
      exact ⟨rfl, this.out.2, KeepsO.refl _ _ _⟩
  · obtain ⟨N, rfl⟩ := Int.eq_ofNat_of_zero_le (show 0 ≤ N by omega)
    have hN : N ≤ 64 := by omega
    by_cases h2 : N < Lib.bitLen x
    · have he : addErr x N = 8 := by simp [addErr, h1, h2]
      have h' : RowAt w base b (addV V n x N) (addN n x N) := by simp [addV, addN, he]; exact h
      rw [he]
      have : Hid _ := And.intro h h'
      clear h he h' h1
      go_enter Tryz.func75, Tryz.ntmps75
      go_wp2_with (go_at_call 74; refine (lane_Width x hx _).mono ?_; rintro e w' ⟨rfl, rfl⟩)
      go_ret
      exact ⟨rfl, this.out.2, KeepsO.refl _ _ _⟩
    · have he : addErr x N = 0 := by simp [addErr, h1, h2]
      have hlt := width_lt x N hx (by omega)
      rw [he, show addV V n x N = cat V n x by simp [addV, he], show addN n x N = n + N by simp [addN, he]]
      obtain ⟨v, hb, hown⟩ := h.mem
      have fin : ∀ (e : Ending) (w' : World), (e = .returned (.int .i64 0) ∧ (∃ v, w'.heap[b]? = some (.cells #[v, .int .i64 ((n + N : Nat) : Int)] 102 (0, 0)) ∧ w'.ownsRow base 68 1 v (nw (n + N)) (u64s (wd (cat V n x)) (nw (n + N)))) ∧ KeepsO base (fun k => k = b ∨ v.ownBlock = some k) w w') →
          (e = .returned (.int .i64 0) ∧ RowAt w' base b (cat V n x) (n + N) ∧ KeepsO base (RowBlk w b) w w') := fun e w' ⟨a, m, k⟩ => ⟨a, ⟨h.lo, cat_lt h.fit hlt, by omega, m⟩, k.toKeeps, fun j hj hs => k.only j hj (fun hj2 => hs (hj2.imp id fun h2 => ⟨_, _, hb, h2⟩))⟩
      by_cases hu : n % 64 = 0
      · exact (add_first base b (nw n) n x N V v w rfl hb h.lo hsz h.fit hown hu hN hx (by omega) h.len).mono fin
      · obtain ⟨g, cap, rfl⟩ : ∃ g cap, v = .slice (some ⟨g, 0, none⟩) (nw n) cap := by
          rcases hown.2 with ⟨_, h⟩ | ⟨g, cap, _, h, _⟩
          · unfold nw at h; omega
          · exact ⟨g, cap, h⟩
        exact (add_mid base b g (nw n) cap n x N V w rfl hb h.lo hsz h.fit hown hu hN hx (by omega) h.len).mono fin

theorem row_add (base b V n x : Nat) (N : Int) (w : World) (h : RowAt w base b V n) (hsz : base ≤ w.heap.size) (hx : x < 18446744073709551616) (hn : n + 64 ≤ 1099511627776) :
    Calls Tryz.prog 75 #[.pointer (some ⟨b, 0, none⟩), .int .u64 x, .int .i64 N] w fun e w' => e = .returned (.int .i64 (addErr x N)) ∧ RowAt w' base b (addV V n x N) (addN n x N) ∧ Keeps base w w' :=
  (row_add_o base b V n x N w h hsz hx hn).mono fun _ _ ⟨a, r, k⟩ => ⟨a, r, k.toKeeps⟩

theorem nil_add (w : World) (x N : Int) : Calls Tryz.prog 75 #[.pointer none, .int .u64 x, .int .i64 N] w fun e w' => e = .returned (.int .i64 11) ∧ w' = w := by
  go_enter Tryz.func75, Tryz.ntmps75
  go_wp2
  go_ret
  exact ⟨rfl, rfl⟩

end Go.Proofs.YtbjgbigalfhnjaaGreatDoor
