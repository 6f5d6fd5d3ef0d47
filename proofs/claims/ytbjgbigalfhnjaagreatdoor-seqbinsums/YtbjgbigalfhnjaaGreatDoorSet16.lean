/-
  Regions that draw their order, with calls that make new blocks: one walk of the lexical order, in the class of the worlds that are 'w and new blocks'.
  elias: how many numbers are below another one; Next, Ahead, Find, Size; of nil too.
  elias: Next, Ahead, Find, Size; of nil too.
-/
import Derived.Test.YtbjgbigalfhnjaaGreatDoorSet05
import Derived.BigQuiet
import Derived.Test.YtbjgbigalfhnjaaGreatDoorEliasE
namespace Go.Proofs.YtbjgbigalfhnjaaGreatDoor
open Go.RowKit

/-- The worlds that w can become by new blocks alone. -/
structure Lat (w : World) where
  val : World
  more : More w val
theorem Lat.any (w : World) : Nonempty (Lat w) := ⟨⟨w, Below.refl _ _⟩⟩

/-- One walk of the lexical order serves every order, also where a call makes new blocks. -/
theorem wp_region_lat {P : Program} {id : Nat} {Q : Exit → Act → World → Prop} {a : Act} {w : World} {l : List Oper} (hm : P.follows .mixedOrders = true) (hB : Region.lexB .any l.toArray = true)
    (h : wpQuiet P l.toArray (fun w' => ∃ u : Lat w, w' = u.val) (fun a' => ∀ w', (∃ u : Lat w, w' = u.val) → Q .normal a' w') l a) : (Code.region id l.toArray true).wp P Q a w :=
  wp_region_quiet (C := fun w' => ∃ u : Lat w, w' = u.val) hm hB ⟨⟨_, More.drewN w 1⟩, rfl⟩ (by simpa using h)

theorem Lat.drawn {w : World} (u : Lat w) (m : Nat) : ∃ u' : Lat w, u.val.drewN m = u'.val := ⟨⟨_, More.trans u.more (More.drewN _ _)⟩, rfl⟩
theorem Lat.grown {w w' : World} (u : Lat w) (h : More u.val w') : ∃ u' : Lat w, w' = u'.val := ⟨⟨w', More.trans u.more h⟩, rfl⟩

end Go.Proofs.YtbjgbigalfhnjaaGreatDoor

namespace Go.Proofs.YtbjgbigalfhnjaaGreatDoor
open Go.RowKit

theorem bel_nought (g : Nat → Nat) (n : Nat) : bel g 0 n = 0 := by
  induction n with
  | zero => rfl
  | succ n ih => rw [bel, ih]; simp

/-- What is found among the numbers with the same part above the low bits. -/
theorem find_is {f : Nat → Nat} {n : Nat} (h : Climbs f n) (w v : Nat) :
    bel (fun i => f i / 2 ^ w) (v / 2 ^ w) n ≤ bel f v n ∧ bel f v n ≤ bel (fun i => f i / 2 ^ w) (v / 2 ^ w + 1) n ∧
    IsFind (fun i => f i % 2 ^ w) n (bel (fun i => f i / 2 ^ w) (v / 2 ^ w) n : Nat) (bel (fun i => f i / 2 ^ w) (v / 2 ^ w + 1) n : Nat) (v % 2 ^ w) (if bel f v n < bel (fun i => f i / 2 ^ w) (v / 2 ^ w + 1) n then (bel f v n : Nat) else -1) := by
  obtain ⟨p1, p2⟩ := bel_parts (hi_mono h w) (v / 2 ^ w)
  obtain ⟨p3, p4⟩ := bel_parts (hi_mono h w) (v / 2 ^ w + 1)
  obtain ⟨q1, q2⟩ := bel_parts h.ups v
  have l1 := bel_le (fun i => f i / 2 ^ w) (v / 2 ^ w) n
  have l2 := bel_le (fun i => f i / 2 ^ w) (v / 2 ^ w + 1) n
  have l3 := bel_le f v n
  generalize bel (fun i => f i / 2 ^ w) (v / 2 ^ w) n = lo at *
  generalize bel (fun i => f i / 2 ^ w) (v / 2 ^ w + 1) n = hi at *
  generalize bel f v n = B at *
  try simp only at p1 p2 p3 p4
  have a1 : lo ≤ B := by
    rcases Nat.lt_or_ge B lo with hlt | hge
    · have x1 := p1 B hlt
      have x2 := q2 B (Nat.le_refl _) (by omega)
      have x3 := (split_lt (f B) v w).2 (.inl x1)
      omega
    · exact hge
  have a2 : B ≤ hi := by
    rcases Nat.lt_or_ge hi B with hlt | hge
    · have x1 := p4 hi (Nat.le_refl _) (by omega)
      have x2 := q1 hi hlt
      rw [split_lt (f hi) v w] at x2
      omega
    · exact hge
  have key : ∀ j, lo ≤ j → j < hi → (f j < v ↔ f j % 2 ^ w < v % 2 ^ w) := fun j b1 b2 => by
    have x1 := p2 j b1 (by omega)
    have x2 := p3 j b2
    rw [split_lt (f j) v w]
    omega
  refine ⟨a1, a2, ?_⟩
  by_cases hB : B < hi
  · rw [if_pos hB]
    refine .inr ⟨B, rfl, by omega, by omega, by omega, ?_, fun j b1 b2 => (key j (by omega) (by omega)).1 (q1 j b1)⟩
    have x1 := q2 B (Nat.le_refl _) (by omega)
    have x2 := key B a1 hB
    simp only
    omega
  · rw [if_neg hB]
    exact .inl ⟨rfl, fun j b1 b2 b3 => (key j (by omega) (by omega)).1 (q1 j (by omega))⟩

theorem IsFind.congr' {f g : Nat → Nat} {K : Nat} {lo hi : Int} {v : Nat} {r : Int} (h : IsFind f K lo hi v r) (he : ∀ j, j < K → f j = g j) : IsFind g K lo hi v r := by
  rcases h with ⟨rfl, h⟩ | ⟨i, rfl, h1, h2, h3, h4, h5⟩
  · exact .inl ⟨rfl, fun i a b c => by rw [← he i a]; exact h i a b c⟩
  · exact .inr ⟨i, rfl, h1, h2, h3, by rw [← he i h1]; exact h4, fun j a b => by rw [← he j (by omega)]; exact h5 j a b⟩
theorem Rising.congr' {f g : Nat → Nat} {K : Nat} {lo hi : Int} (h : Rising f K lo hi) (he : ∀ j, j < K → f j = g j) : Rising g K lo hi :=
  fun i a b c d => by rw [← he (i - 1) (by omega), ← he i b]; exact h i a b c d

end Go.Proofs.YtbjgbigalfhnjaaGreatDoor

namespace Go.Proofs.YtbjgbigalfhnjaaGreatDoor
open Go.RowKit

end Go.Proofs.YtbjgbigalfhnjaaGreatDoor
