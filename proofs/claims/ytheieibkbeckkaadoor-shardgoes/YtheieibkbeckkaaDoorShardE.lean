/-
  shard: Len, At.
-/
import Derived.Test.YtheieibkbeckkaaDoorShardD
import Derived.Deep.RegionHeld3
namespace Go.Proofs.YtheieibkbeckkaaDoor
open Go.RowKit

/-- The parts of a sequence, as they are read. -/
structure ShRd (w : World) (base q s b : Nat) (pv : Nat → Value) (cap : Nat) (f : Nat → Nat) (n : Nat) : Prop where
  c0 : w.cell? ⟨q, 0, none⟩ = some (.int .i64 n)
  c1 : w.cell? ⟨q, 1, none⟩ = some (.pointer (some ⟨s, 0, none⟩))
  c2 : w.cell? ⟨q, 2, none⟩ = some (.slice (some ⟨b, 0, none⟩) (prts n) cap)
  cp : ∀ k, k < prts n → w.cell? ⟨b, k, none⟩ = some (pv k)
  seq : SeqAt w base s (frs f) (prts n)
  part : ∀ k, k < prts n → PartAt w base (pv k) (prt f k) (prtn n k)
theorem ShAt.cells {w : World} {base q : Nat} {f : Nat → Nat} {n : Nat} (h : ShAt w base q f n) : w.cell? ⟨q, 0, none⟩ = some (.int .i64 n) := by
  obtain ⟨s, vp, pv, hq, hs, hv, hp⟩ := h.mem
  exact (cells3 hq).1
theorem ShAt.rd {w : World} {base q : Nat} {f : Nat → Nat} {n : Nat} (h : ShAt w base q f n) (hn : 0 < n) : ∃ s b pv cap, ShRd w base q s b pv cap f n := by
  obtain ⟨s, vp, pv, hq, hs, hv, hp⟩ := h.mem
  obtain ⟨c0, c1, c2, _⟩ := cells3 hq
  have hv' := hv
  rcases hv.2 with ⟨_, h0⟩ | ⟨b, cap, cur, rfl, _⟩
  · unfold prts at h0; omega
  · exact ⟨s, b, pv, cap, c0, c1, c2, fun k hk => by have := hv'.cellAt k (by omega); rw [vals_get _ _ _ hk] at this; exact this, hs, hp⟩

theorem sh_len (base q : Nat) (f : Nat → Nat) (n : Nat) (w : World) (h : ShAt w base q f n) :
    Calls Tryd.prog 17 #[.pointer (some ⟨q, 0, none⟩)] w fun e w' => e = .returned (.int .i64 n) ∧ w' = w := by
  have c0 := h.cells
  clear h
  go_enter Tryd.func17, Tryd.ntmps17
  go_wp2
  go_ret
  exact ⟨rfl, rfl⟩
theorem shn_len (w : World) : Calls Tryd.prog 17 #[.pointer none] w fun e w' => e = .returned (.int .i64 0) ∧ w' = w := by
  go_enter Tryd.func17, Tryd.ntmps17
  go_wp2
  go_ret
  exact ⟨rfl, rfl⟩

/-- What a part's method tells, whichever function it is, in any later world: one that takes an int, one that takes nothing. -/
def Tells1 (w : World) (name : String) (a b c : Nat) (pv : Value) (x r : Int) : Prop :=
  ∃ T U F, pv = .iface T U ∧ (F = a ∨ F = b ∨ F = c) ∧ (∀ w', (method 214 T U name).run Tryd.prog w' = .ok (F, U) w') ∧ ∀ w', More w w' → Calls Tryd.prog F #[U, .int .i64 x] w' fun e w'' => e = .returned (.int .i64 r) ∧ More w' w''
def Tells0 (w : World) (name : String) (a b c : Nat) (pv : Value) (r : Int) : Prop :=
  ∃ T U F, pv = .iface T U ∧ (F = a ∨ F = b ∨ F = c) ∧ (∀ w', (method 214 T U name).run Tryd.prog w' = .ok (F, U) w') ∧ ∀ w', More w w' → Calls Tryd.prog F #[U] w' fun e w'' => e = .returned (.int .i64 r) ∧ More w' w''
theorem PartAt.ats {w : World} {base : Nat} {pv : Value} {g : Nat → Nat} {m : Nat} (h : PartAt w base pv g m) (j : Nat) (hj : j < m) : Tells1 w "locution/shard.at" 87 91 95 pv j (pat g m j : Nat) := by
  rcases h with ⟨hk, rfl⟩ | ⟨hk, rfl⟩ | ⟨hk, s, rfl, hs⟩
  · refine ⟨_, _, _, rfl, .inl rfl, run_at_is, fun w' _ => ?_⟩
    rw [show pat g m j = j by unfold pat; rw [if_pos hk]]
    exact run_at _ w'
  · refine ⟨_, _, _, rfl, .inr (.inl rfl), alike_at_is, fun w' _ => ?_⟩
    rw [show pat g m j = 0 by unfold pat; rw [if_neg (by omega), if_pos hk]]
    exact alike_at _ w'
  · refine ⟨_, _, _, rfl, .inr (.inr rfl), other_at_is s, fun w' hm => ?_⟩
    have := other_at base s g m j w' (hs.more hm)
    rw [atZ_in _ _ _ hj] at this
    rw [show pat g m j = dif g j by unfold pat; rw [if_neg (by omega), if_neg (by omega)]]
    exact this
theorem PartAt.belows {w : World} {base : Nat} {pv : Value} {g : Nat → Nat} {m : Nat} (h : PartAt w base pv g m) (d : Int) : Tells1 w "locution/shard.below" 88 92 96 pv d (pbel g m d) := by
  rcases h with ⟨hk, rfl⟩ | ⟨hk, rfl⟩ | ⟨hk, s, rfl, hs⟩
  · refine ⟨_, _, _, rfl, .inl rfl, run_below_is, fun w' _ => ?_⟩
    rw [show pbel g m d = d by unfold pbel; rw [if_pos hk]]
    exact run_below _ w'
  · refine ⟨_, _, _, rfl, .inr (.inl rfl), alike_below_is, fun w' _ => ?_⟩
    rw [show pbel g m d = 32 by unfold pbel; rw [if_neg (by omega), if_pos hk]]
    exact alike_below _ w'
  · refine ⟨_, _, _, rfl, .inr (.inr rfl), other_below_is s, fun w' hm => ?_⟩
    have := other_below base s g m d w' (hs.more hm)
    rw [show pbel g m d = if belI (dif g) d m < m then ((belI (dif g) d m : Nat) : Int) else 32 by unfold pbel; rw [if_neg (by omega), if_neg (by omega)]]
    exact this
theorem PartAt.kinds {w : World} {base : Nat} {pv : Value} {g : Nat → Nat} {m : Nat} (h : PartAt w base pv g m) : Tells0 w "locution/shard.kind" 89 93 97 pv (kind g m : Nat) := by
  rcases h with ⟨hk, rfl⟩ | ⟨hk, rfl⟩ | ⟨hk, s, rfl, hs⟩
  · rw [hk]; exact ⟨_, _, _, rfl, .inl rfl, run_kind_is, fun w' _ => run_kind w'⟩
  · rw [hk]; exact ⟨_, _, _, rfl, .inr (.inl rfl), alike_kind_is, fun w' _ => alike_kind w'⟩
  · rw [hk]; exact ⟨_, _, _, rfl, .inr (.inr rfl), other_kind_is s, fun w' _ => other_kind s w'⟩
/-- The class of the worlds in which a sequence's three cells are read. -/
theorem held3 {wr w w' : World} {a b c : Addr} {u v x : Value} (h : More wr w ∧ w.cell? a = some u ∧ w.cell? b = some v ∧ w.cell? c = some x) (k : More w w') :
    More wr w' ∧ w'.cell? a = some u ∧ w'.cell? b = some v ∧ w'.cell? c = some x :=
  ⟨More.trans h.1 k, (k.cell (World.block_lt_of_cell? w _ h.2.1)).trans h.2.1, (k.cell (World.block_lt_of_cell? w _ h.2.2.1)).trans h.2.2.1, (k.cell (World.block_lt_of_cell? w _ h.2.2.2)).trans h.2.2.2⟩

set_option maxHeartbeats 1600000 in
set_option maxRecDepth 1000000 in
theorem sh_at (base q : Nat) (f : Nat → Nat) (n : Nat) (i : Int) (w : World) (h : ShAt w base q f n) :
    Calls Tryd.prog 11 #[.pointer (some ⟨q, 0, none⟩), .int .i64 i] w fun e w' => e = .returned (.int .i64 (atZ f n i)) ∧ More w w' := by
  have hl := sh_len base q f n w h
  by_cases h0 : i < 0
  · rw [atZ_out f n i (by omega)]
    clear h hl
    go_enter Tryd.func11, Tryd.ntmps11
    go_wp2
    go_ret
    exact ⟨rfl, Below.refl _ _⟩
  obtain ⟨i, rfl⟩ := Int.eq_ofNat_of_zero_le (show 0 ≤ i by omega)
  by_cases h1 : i < n
  · rw [atZ_in f n i h1]
    have hn := h.num
    obtain ⟨s, b, pv, cap, hr⟩ := h.rd (by omega)
    have hkk : i / 32 < prts n := by unfold prts; omega
    have hsum := at_parts h.climbs h1
    have htop := h.climbs.top i h1
    have hea := fun w' (hm : More w w') => el_at base s (frs f) (prts n) (i / 32 : Nat) w' (hr.seq.more hm)
    rw [atZ_in _ _ _ hkk] at hea
    have hats := (hr.part (i / 32) hkk).ats (i % 32) (by unfold prtn; omega)
    have c1 := hr.c1
    have c2 := hr.c2
    have c3 := hr.cp (i / 32) hkk
    have hdiv : ((i : Int) / 32) = ((i / 32 : Nat) : Int) := by omega
    have hmod : (i : Int).tmod 32 = ((i % 32 : Nat) : Int) := by rw [Int.tmod_eq_emod_of_nonneg (by omega)]; omega
    have hwk : IntKind.i64.wrap ((i / 32 : Nat) : Int) = ((i / 32 : Nat) : Int) := by rw [IntKind.wrap_i64]; omega
    generalize pv (i / 32) = p at *
    generalize pat (prt f (i / 32)) (prtn n (i / 32)) (i % 32) = y at *
    generalize frs f (i / 32) = x at *
    generalize hk : i / 32 = k at *
    generalize hj : i % 32 = j at *
    generalize prts n = K at *
    obtain ⟨X, hX⟩ : ∃ X, f i = X := ⟨_, rfl⟩
    rw [hX] at hsum htop ⊢
    have HS := Hid.mk (And.intro hsum (And.intro hk hj))
    have hxy : ((x : Int) + (y : Int)) = (X : Int) := by omega
    have hwX : IntKind.i64.wrap (X : Int) = (X : Int) := by rw [IntKind.wrap_i64]; omega
    clear h hr h0 hX hsum hk hj
    obtain ⟨T, U, F, rfl, hF, hme, hat⟩ := hats
    rcases hF with rfl | rfl | rfl
    all_goals
      go_enter Tryd.func11, Tryd.ntmps11
      go_wp2_with (go_at_call 17; refine hl.mono ?_; rintro e w' ⟨rfl, hw⟩; subst w'; clear hl)
      go_region_held3 (fun w' => More w w' ∧ w'.cell? ⟨q, 1, none⟩ = some (.pointer (some ⟨s, 0, none⟩)) ∧ w'.cell? ⟨q, 2, none⟩ = some (.slice (some ⟨b, 0, none⟩) K cap) ∧ w'.cell? ⟨b, k, none⟩ = some (.iface T U))
        (first | assumption | exact held3 (by assumption) (by assumption) | exact held3 ⟨Below.refl _ _, c1, c2, c3⟩ (More.drewN _ 1))
        (first
          | (go_at_call 18; refine (hea _ (And.left (by assumption))).mono ?_; rintro e w2 ⟨rfl, hm2⟩)
          | (refine (hat _ (And.left (by assumption))).mono ?_; rintro e w3 ⟨rfl, hm3⟩))
      all_goals
        go_wp2
        go_ret
        exact ⟨rfl, And.left (by assumption)⟩
  · rw [atZ_out f n i (by omega)]
    clear h h0
    go_enter Tryd.func11, Tryd.ntmps11
    go_wp2_with (go_at_call 17; refine hl.mono ?_; rintro e w' ⟨rfl, hw⟩; subst w')
    go_ret
    exact ⟨rfl, Below.refl _ _⟩

end Go.Proofs.YtheieibkbeckkaaDoor
