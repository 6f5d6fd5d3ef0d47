/-
  elias: how many numbers are below another one; Next, Ahead, Find, Size; of nil too.
-/
import Derived.Test.YtgcaenpflndibaaDoorEliasE
import Derived.Test.YtgcaenpflndibaaDoorLat
namespace Go.Proofs.YtgcaenpflndibaaDoor
open Go.RowKit

theorem bel_nought (g : Nat → Nat) (n : Nat) : bel g 0 n = 0 := by
  induction n with
  | zero => rfl
  | succ n ih => rw [bel, ih]; simp

theorem el_highBelow (base s q : Nat) (f : Nat → Nat) (n : Nat) (w : World) (h : SeqAt w base s f n) (hq : q ≤ 1099511627780) :
    Calls Tryd.prog 48 #[.pointer (some ⟨s, 0, none⟩), .int .i64 q] w fun e w' => e = .returned (.int .i64 (bel (fun i => f i / 2 ^ wdt f n) q n : Nat)) ∧ More w w' := by
  cases q with
  | zero =>
    rw [bel_nought]
    clear h hq
    go_enter Tryd.func48, Tryd.ntmps48
    go_wp2
    go_ret
    exact ⟨rfl, Below.refl _ _⟩
  | succ z =>
    obtain ⟨p, d, hr⟩ := h.rd
    have c1 := hr.c1
    have hz := sdir_zero d _ _ z base w hr.dr
    rw [sel_nought h.climbs (wdt f n) z _ rfl] at hz
    have hle := bel_le (fun i => f i / 2 ^ wdt f n) (z + 1) n
    have hl := fun w1 (hm : More w w1) => el_len base s f n w1 (h.more hm)
    have hn := h.num
    generalize bel (fun i => f i / 2 ^ wdt f n) (z + 1) n = c at *
    have hz1 : ¬ ((z : Int) + 1 = 0) := by omega
    clear h hr
    by_cases hc : c < n
    · rw [if_pos hc] at hz
      have e1 : ((z + c : Nat) : Int) - (z : Int) = c := by omega
      obtain ⟨A, hA⟩ : ∃ A, z + c = A := ⟨_, rfl⟩
      rw [hA] at hz e1
      have hA0 : ¬ (A : Int) < 0 := by omega
      have hAb : A ≤ 1099511628780 := by omega
      clear hA hle hc
      rw [Int.natCast_add, Int.natCast_one]
      go_enter Tryd.func48, Tryd.ntmps48
      go_wp2_with (go_at_call 63; refine hz.mono ?_; rintro e w1 ⟨rfl, hm⟩; have H1 := Hid.mk hm; clear hm hz)
      go_ret
      exact ⟨rfl, H1.out⟩
    · rw [if_neg hc] at hz
      obtain rfl : c = n := by omega
      clear hc hle
      rw [Int.natCast_add, Int.natCast_one]
      go_enter Tryd.func48, Tryd.ntmps48
      go_wp2_with (first
        | (go_at_call 63; refine hz.mono ?_; rintro e w1 ⟨rfl, hm⟩; have H1 := Hid.mk hm; clear hm hz)
        | (go_at_call 27; refine (hl _ H1.out).mono ?_; rintro e w' ⟨rfl, hw⟩; subst w'))
      go_ret
      exact ⟨rfl, H1.out⟩

/-- What is found among the numbers with the same part above the low bits. -/
theorem find_is {f : Nat → Nat} {n : Nat} (h : Climbs f n) (w v : Nat) :
    bel (fun i => f i / 2 ^ w) (v / 2 ^ w) n ≤ bel f v n ∧ bel f v n ≤ bel (fun i => f i / 2 ^ w) (v / 2 ^ w + 1) n ∧
    IsFind (fun i => f i % 2 ^ w) n (bel (fun i => f i / 2 ^ w) (v / 2 ^ w) n : Nat) (bel (fun i => f i / 2 ^ w) (v / 2 ^ w + 1) n : Nat) (v % 2 ^ w) (if bel f v n < bel (fun i => f i / 2 ^ w) (v / 2 ^ w + 1) n then (bel f v n : Nat) else -1) := by
  obtain ⟨p1, p2⟩ := bel_parts (hi_mono h w) (v / 2 ^ w)
  obtain ⟨p3, p4⟩ := bel_parts (hi_mono h w) (v / 2 ^ w + 1)
  obtain ⟨q1, q2⟩ := bel_parts h.ups v
  have l1 := bel_le (fun i => f i / 2 ^ w) (v / 2 ^ w) n
  have l2 := bel_le (fun i => f i / 2 ^ w) (v / 2 ^ w + 1) n
  have l3 := bel_le f v n
  generalize bel (fun i => f i / 2 ^ w) (v / 2 ^ w) n = lo at *
  generalize bel (fun i => f i / 2 ^ w) (v / 2 ^ w + 1) n = hi at *
  generalize bel f v n = B at *
  try simp only at p1 p2 p3 p4
  have a1 : lo ≤ B := by
    rcases Nat.lt_or_ge B lo with hlt | hge
    · have x1 := p1 B hlt
      have x2 := q2 B (Nat.le_refl _) (by omega)
      have x3 := (split_lt (f B) v w).2 (.inl x1)
      omega
    · exact hge
  have a2 : B ≤ hi := by
    rcases Nat.lt_or_ge hi B with hlt | hge
    · have x1 := p4 hi (Nat.le_refl _) (by omega)
      have x2 := q1 hi hlt
      rw [split_lt (f hi) v w] at x2
      omega
    · exact hge
  have key : ∀ j, lo ≤ j → j < hi → (f j < v ↔ f j % 2 ^ w < v % 2 ^ w) := fun j b1 b2 => by
    have x1 := p2 j b1 (by omega)
    have x2 := p3 j b2
    rw [split_lt (f j) v w]
    omega
  refine ⟨a1, a2, ?_⟩
  by_cases hB : B < hi
  · rw [if_pos hB]
    refine .inr ⟨B, rfl, by omega, by omega, by omega, ?_, fun j b1 b2 => (key j (by omega) (by omega)).1 (q1 j b1)⟩
    have x1 := q2 B (Nat.le_refl _) (by omega)
    have x2 := key B a1 hB
    simp only
    omega
  · rw [if_neg hB]
    exact .inl ⟨rfl, fun j b1 b2 b3 => (key j (by omega) (by omega)).1 (q1 j (by omega))⟩

theorem IsFind.congr' {f g : Nat → Nat} {K : Nat} {lo hi : Int} {v : Nat} {r : Int} (h : IsFind f K lo hi v r) (he : ∀ j, j < K → f j = g j) : IsFind g K lo hi v r := by
  rcases h with ⟨rfl, h⟩ | ⟨i, rfl, h1, h2, h3, h4, h5⟩
  · exact .inl ⟨rfl, fun i a b c => by rw [← he i a]; exact h i a b c⟩
  · exact .inr ⟨i, rfl, h1, h2, h3, by rw [← he i h1]; exact h4, fun j a b => by rw [← he j (by omega)]; exact h5 j a b⟩
theorem Rising.congr' {f g : Nat → Nat} {K : Nat} {lo hi : Int} (h : Rising f K lo hi) (he : ∀ j, j < K → f j = g j) : Rising g K lo hi :=
  fun i a b c d => by rw [← he (i - 1) (by omega), ← he i b]; exact h i a b c d

/-- The low part is looked through. -/
theorem low_find (base s p d v : Nat) (f : Nat → Nat) (n : Nat) (w : World) (hC : Climbs f n) (h : SeqRd w base s p d f n) :
    Calls Tryd.prog 49 #[.pointer (some ⟨p, 0, none⟩), .int .i64 (bel (fun i => f i / 2 ^ wdt f n) (v / 2 ^ wdt f n) n : Nat), .int .i64 (bel (fun i => f i / 2 ^ wdt f n) (v / 2 ^ wdt f n + 1) n : Nat), .int .u64 (v % 2 ^ wdt f n : Nat)] w
      fun e w' => e = .returned (.int .i64 (if bel f v n < bel (fun i => f i / 2 ^ wdt f n) (v / 2 ^ wdt f n + 1) n then (bel f v n : Nat) else -1)) ∧ ∃ m, w' = w.drewN m := by
  have he : ∀ j, j < n → f j % 2 ^ wdt f n = (fun i : Nat => atV (packV (wdt f n) (fun i => f i % 2 ^ wdt f n) n) (wdt f n) n i) j := fun j hj => (atV_pack _ _ _ _ (fun j _ => Nat.mod_lt _ (Nat.two_pow_pos _)) hj).symm
  refine (pack_find p _ _ n _ _ _ w h.pk.rd ((low_rising hC (wdt f n) (v / 2 ^ wdt f n)).congr' he)).mono ?_
  rintro e w' ⟨r, rfl, hr, hk⟩
  rw [hr.unique ((find_is hC (wdt f n) v).2.2.congr' he)]
  exact ⟨rfl, hk⟩

set_option maxHeartbeats 800000 in
theorem el_below (base s : Nat) (v : Int) (f : Nat → Nat) (n : Nat) (w : World) (h : SeqAt w base s f n) :
    Calls Tryd.prog 30 #[.pointer (some ⟨s, 0, none⟩), .int .i64 v] w fun e w' => e = .returned (.int .i64 (belI f v n : Nat)) ∧ More w w' := by
  obtain ⟨p, d, hr⟩ := h.rd
  have c0 := hr.c0
  have hsl := World.block_lt_of_cell? w _ c0
  have hC := h.climbs
  have hn := h.num
  have hwd := wdt_le hC
  have hv := nearV_eq v
  have hvb := nearV_le v
  unfold belI
  obtain ⟨x, hx⟩ : ∃ x, nearV v = x := ⟨_, rfl⟩
  rw [hx] at hv hvb ⊢
  have hwi := pack_width p _ _ n w hr.pk.rd
  obtain ⟨q, hq⟩ : ∃ q, x / 2 ^ wdt f n = q := ⟨_, rfl⟩
  have hqb : q ≤ x := by rw [← hq]; exact Nat.div_le_self _ _
  have hsh : (x : Int) / 2 ^ wdt f n = (q : Int) := by rw [← hq, Int.natCast_ediv, Int.natCast_pow]; rfl
  have hlo := el_highBelow base s q f n w h (by omega)
  have hhi := fun w1 (hm : More w w1) => el_highBelow base s (q + 1) f n w1 (h.more hm) (by omega)
  have hlb := fun w => el_lowBits x (wdt f n) hvb (by omega) w
  have hfd := fun w1 (hm : More w w1) => low_find base s p d x f n w1 hC (hr.more hm)
  obtain ⟨f1, f2, _⟩ := find_is hC (wdt f n) x
  rw [hq] at hfd f1 f2
  have hcl := fun w1 (hm : More w w1) => (hm.cell (p := ⟨s, 0, none⟩) hsl).trans c0
  have bl := bel_le (fun i => f i / 2 ^ wdt f n) (q + 1) n
  generalize bel (fun i => f i / 2 ^ wdt f n) q n = lo at *
  generalize bel (fun i => f i / 2 ^ wdt f n) (q + 1) n = hi at *
  generalize x % 2 ^ wdt f n = y at *
  generalize wdt f n = D at *
  generalize bel f x n = B at *
  rw [Int.natCast_add, Int.natCast_one] at hhi
  clear h hr hq hx hC hsl
  by_cases hB : B < hi
  · simp only [hB, if_true] at hfd
    go_enter Tryd.func30, Tryd.ntmps30
    go_wp2_with (first
      | (go_at_call 43; refine hwi.mono ?_; rintro e w' ⟨rfl, hw⟩; subst w'; clear hwi)
      | (go_at_call_of 48 (Value.int IntKind.i64 q); refine hlo.mono ?_; rintro e w1 ⟨rfl, hm⟩; have H1 := Hid.mk hm; clear hm hlo)
      | (go_at_call 48; refine (hhi _ H1.out).mono ?_; rintro e w2 ⟨rfl, hm⟩; have H2 := Hid.mk (More.trans H1.out hm); clear hm hhi))
    have c2 := hcl w2 H2.out
    have hfd2 := fun m => hfd (w2.drewN m) (More.trans H2.out (More.drewN w2 m))
    go_quiet (first | (go_at_call 32; exact Calls.quiet_of (hlb _)) | (go_at_call 49; exact Calls.quiet_of (hfd2 _)))
    go_wp2
    go_ret
    exact ⟨rfl, More.trans H2.out (More.drewN _ _)⟩
  · obtain rfl : B = hi := by omega
    simp only [hB, if_false] at hfd
    go_enter Tryd.func30, Tryd.ntmps30
    go_wp2_with (first
      | (go_at_call 43; refine hwi.mono ?_; rintro e w' ⟨rfl, hw⟩; subst w'; clear hwi)
      | (go_at_call_of 48 (Value.int IntKind.i64 q); refine hlo.mono ?_; rintro e w1 ⟨rfl, hm⟩; have H1 := Hid.mk hm; clear hm hlo)
      | (go_at_call 48; refine (hhi _ H1.out).mono ?_; rintro e w2 ⟨rfl, hm⟩; have H2 := Hid.mk (More.trans H1.out hm); clear hm hhi))
    have c2 := hcl w2 H2.out
    have hfd2 := fun m => hfd (w2.drewN m) (More.trans H2.out (More.drewN w2 m))
    go_quiet (first | (go_at_call 32; exact Calls.quiet_of (hlb _)) | (go_at_call 49; exact Calls.quiet_of (hfd2 _)))
    go_wp2
    go_ret
    exact ⟨rfl, More.trans H2.out (More.drewN _ _)⟩
theorem eln_below (v : Int) (w : World) : Calls Tryd.prog 30 #[.pointer none, .int .i64 v] w fun e w' => e = .returned (.int .i64 0) ∧ w' = w := by
  go_enter Tryd.func30, Tryd.ntmps30
  go_wp2
  go_ret
  exact ⟨rfl, rfl⟩

end Go.Proofs.YtgcaenpflndibaaDoor
