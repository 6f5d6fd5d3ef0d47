/-
  PackFinds, walked.
-/
import Derived.Test.YtbjdjidamocmoaaPackLawB
import Derived.BigQuiet
namespace Go.Proofs.Ytbjdjidamocmoaa
open Go.RowKit

theorem Rising.congr {f g : Nat → Nat} {K : Nat} {lo hi : Int} (h : Rising f K lo hi) (e : ∀ j, j < K → f j = g j) : Rising g K lo hi := by
  intro i h1 h2 h3 h4
  rw [← e i h2, ← e (i - 1) (by omega)]
  exact h i h1 h2 h3 h4
theorem IsFind.congr {f g : Nat → Nat} {K : Nat} {lo hi : Int} {v : Nat} {r : Int} (h : IsFind f K lo hi v r) (e : ∀ j, j < K → f j = g j) : IsFind g K lo hi v r := by
  rcases h with ⟨rfl, h⟩ | ⟨i, rfl, h1, h2, h3, h4, h5⟩
  · exact .inl ⟨rfl, fun i a b c => by rw [← e i a]; exact h i a b c⟩
  · exact .inr ⟨i, rfl, h1, h2, h3, by rw [← e i h1]; exact h4, fun j a b => by rw [← e j (by omega)]; exact h5 j a b⟩

/-- The pair, put into a variable. -/
theorem pair_cells (w : World) (x y : Int) (t : TypeId) : (w.alloc (.cells #[.int .i64 x, .int .i64 y] t)).cell? ⟨w.heap.size, 0, none⟩ = some (.int .i64 x) ∧ (w.alloc (.cells #[.int .i64 x, .int .i64 y] t)).cell? ⟨w.heap.size, 1, none⟩ = some (.int .i64 y) := by
  constructor <;> simp

theorem packFinds_big (s : Value) (K v : Nat) (f : Nat → Nat) (x y : Int) (w : World) (h : Rd w s K f) (hK : K ≤ 9223372036854775807) (hbig : 100 < K) :
    Calls Try.prog 5 #[s, .agg #[.int .i64 x, .int .i64 y], .int .u64 v] w fun e w' => e = .returned (.bool true) ∧ Below w.heap.size w w' := by
  obtain ⟨ao, cap, rfl⟩ := h.shape
  clear h
  go_enter Try.func5, Try.ntmps5
  go_wp2_with (go_at_call 7; refine (live _).mono ?_; rintro e w' ⟨rfl, hm⟩)
  go_ret
  exact ⟨rfl, More.trans ((Below.refl w.heap.size w).alloc (Nat.le_refl _) _) hm⟩

theorem packFinds_falls (s : Value) (K v : Nat) (f : Nat → Nat) (x y : Int) (w : World) (h : Rd w s K f) (hK : K ≤ 100) (hR : ¬ Rising f K x y) :
    Calls Try.prog 5 #[s, .agg #[.int .i64 x, .int .i64 y], .int .u64 v] w fun e w' => e = .returned (.bool true) ∧ Below w.heap.size w w' := by
  have hm0 : More w (w.alloc (.cells #[.int .i64 x, .int .i64 y] 40)) := (Below.refl w.heap.size w).alloc (Nat.le_refl _) _
  have hri := refp_rises s K f x y _ (h.more hm0) (by omega)
  obtain ⟨ao, cap, rfl⟩ := h.shape
  have HM : Hid _ := hm0
  clear h hm0
  go_enter Try.func5, Try.ntmps5
  go_wp2_with (first
    | (go_at_call 18; refine hri.mono ?_; rintro e w1 ⟨r, rfl, hr, m1, hw1⟩; subst w1; (obtain rfl : r = false := by (cases r; rfl; exact absurd (hr.1 rfl) hR)))
    | (go_at_call 7; refine (live _).mono ?_; rintro e w' ⟨rfl, hm⟩))
  go_ret
  exact ⟨rfl, More.trans HM.out (More.trans (More.drewN _ _) hm)⟩

theorem IsFind.ex (f : Nat → Nat) (K : Nat) (lo hi : Int) (v : Nat) : ∃ r, IsFind f K lo hi v r := by
  induction K with
  | zero => exact ⟨-1, .inl ⟨rfl, fun i h => by omega⟩⟩
  | succ K ih =>
    obtain ⟨r, h | ⟨i, rfl, h1, h2⟩⟩ := ih
    · by_cases hc : lo ≤ K ∧ (K : Int) < hi ∧ v ≤ f K
      · exact ⟨K, .inr ⟨K, rfl, by omega, hc.1, hc.2.1, hc.2.2, fun j a b => h.2 j a b (by omega)⟩⟩
      · refine ⟨-1, .inl ⟨rfl, fun i a b c => ?_⟩⟩
        rcases (show i < K ∨ i = K by omega) with e | rfl
        · exact h.2 i e b c
        · omega
    · exact ⟨i, .inr ⟨i, rfl, by omega, h2⟩⟩

/-- The worlds that w can become by new blocks alone. -/
structure Lat (w : World) where
  val : World
  more : More w val

/-- One walk of the lexical order serves every order, also where a call makes new blocks. -/
theorem wp_region_lat {P : Program} {id : Nat} {Q : Exit → Act → World → Prop} {a : Act} {w : World} {l : List Oper} (hm : P.follows .mixedOrders = true) (hB : Region.lexB .any l.toArray = true)
    (h : wpQuiet P l.toArray (fun w' => ∃ u : Lat w, w' = u.val) (fun a' => ∀ w', (∃ u : Lat w, w' = u.val) → Q .normal a' w') l a) : (Code.region id l.toArray true).wp P Q a w :=
  wp_region_quiet (C := fun w' => ∃ u : Lat w, w' = u.val) hm hB ⟨⟨_, More.drewN w 1⟩, rfl⟩ (by simpa using h)

set_option maxHeartbeats 3200000 in
set_option maxRecDepth 1000000 in
theorem packFinds_rises (s : Value) (K v : Nat) (f : Nat → Nat) (x y : Int) (w : World) (h : Rd w s K f) (hf : ∀ j, j < K → f j < 18446744073709551616) (hK : K ≤ 100) (hR : Rising f K x y) :
    Calls Try.prog 5 #[s, .agg #[.int .i64 x, .int .i64 y], .int .u64 v] w fun e w' => e = .returned (.bool true) ∧ Below w.heap.size w w' := by
  have hm0 : More w (w.alloc (.cells #[.int .i64 x, .int .i64 y] 40)) := (Below.refl w.heap.size w).alloc (Nat.le_refl _) _
  have hri := refp_rises s K f x y _ (h.more hm0) (by omega)
  have hfit := fun m => pack_fit s K f ((w.alloc (.cells #[.int .i64 x, .int .i64 y] 40)).drewN m) (rd_drewN (h.more hm0) m) hf (by omega)
  obtain ⟨R, hRf⟩ := IsFind.ex f K x y v
  have hrf := fun (w' : World) (k : More w w') => refp_find s K v f x y w' (h.more k) (by omega)
  have hpf : ∀ (p : Nat) (w' : World), PackRd w' p (packV (wid f K) f K) (wid f K) K → Calls Try.prog 19 #[.pointer (some ⟨p, 0, none⟩), .int .i64 x, .int .i64 y, .int .u64 v] w' fun e w2 => e = .returned (.int .i64 R) ∧ ∃ k, w2 = w'.drewN k := fun p w' hp => by
    have he : ∀ j, j < K → f j = (fun i : Nat => atV (packV (wid f K) f K) (wid f K) K i) j := fun j hj => (atV_pack (wid f K) f K j (fits f K (wid f K) hf (Nat.le_refl _)) hj).symm
    refine (pack_find p _ _ K v x y w' hp (hR.congr he)).mono ?_
    rintro e w2 ⟨r, rfl, hr, hk⟩
    rw [hr.unique (hRf.congr he)]
    exact ⟨rfl, hk⟩
  have hrf2 : ∀ (w' : World), More w w' → Calls Try.prog 20 #[s, .int .i64 x, .int .i64 y, .int .u64 v] w' fun e w2 => e = .returned (.int .i64 R) ∧ w2 = w' := fun w' k => by
    refine (hrf w' k).mono ?_
    rintro e w2 ⟨r, rfl, hr, hk⟩
    rw [hr.unique hRf]
    exact ⟨rfl, hk⟩
  obtain ⟨cq0, cq1⟩ := pair_cells w x y 40
  generalize hV : packV (wid f K) f K = V at hfit hpf
  generalize hD : wid f K = D at hfit hpf
  have hsz : w.heap.size < (w.alloc (.cells #[.int .i64 x, .int .i64 y] 40)).heap.size := by simp
  obtain ⟨ao, cap, rfl⟩ := h.shape
  have HM : Hid _ := And.intro hm0 (And.intro cq0 (And.intro cq1 (And.intro hsz hR)))
  clear hm0 cq0 cq1 hsz h hf hR hrf hRf hV hD
  go_enter Try.func5, Try.ntmps5
  go_wp2_with (first
    | (go_at_call 18; refine hri.mono ?_; rintro e w1 ⟨r, rfl, hr, m1, hw1⟩; subst w1; (obtain rfl : r = true := hr.2 HM.out.2.2.2.2); clear hr)
    | (go_at_call 11; refine (hfit _).mono ?_; rintro e w2 ⟨p, rfl, hp, hm2⟩; have H2 := Hid.mk (And.intro hp hm2); clear hp hm2))
  have hm2 : More (w.alloc (.cells #[.int .i64 x, .int .i64 y] 40)) w2 := More.trans (More.drewN _ _) H2.out.2
  have c0 : w2.cell? ⟨w.heap.size, 0, none⟩ = some (.int .i64 x) := (hm2.cell (p := ⟨w.heap.size, 0, none⟩) HM.out.2.2.2.1).trans HM.out.2.1
  have c1 : w2.cell? ⟨w.heap.size, 1, none⟩ = some (.int .i64 y) := (hm2.cell (p := ⟨w.heap.size, 1, none⟩) HM.out.2.2.2.1).trans HM.out.2.2.1
  have HH : Hid _ := And.intro (More.trans HM.out.1 hm2) H2.out.1.rd
  have l0 : ∀ u : Lat w2, u.val.cell? ⟨w.heap.size, 0, none⟩ = some (.int .i64 x) := fun u => (u.more.cell (p := ⟨w.heap.size, 0, none⟩) (World.block_lt_of_cell? w2 _ c0)).trans c0
  have l1 : ∀ u : Lat w2, u.val.cell? ⟨w.heap.size, 1, none⟩ = some (.int .i64 y) := fun u => (u.more.cell (p := ⟨w.heap.size, 1, none⟩) (World.block_lt_of_cell? w2 _ c1)).trans c1
  have k19 : ∀ u : Lat w2, Calls Try.prog 19 #[.pointer (some ⟨p, 0, none⟩), .int .i64 x, .int .i64 y, .int .u64 v] u.val fun e w' => e = .returned (.int .i64 R) ∧ ∃ u' : Lat w2, w' = u'.val := fun u =>
    (hpf p _ (H2.out.1.more u.more).rd).mono fun e w' ⟨he, k, hk⟩ => ⟨he, ⟨⟨w', by rw [hk]; exact More.trans u.more (More.drewN _ _)⟩, rfl⟩⟩
  have k20 : ∀ u : Lat w2, Calls Try.prog 20 #[.slice ao K cap, .int .i64 x, .int .i64 y, .int .u64 v] u.val fun e w' => e = .returned (.int .i64 R) ∧ ∃ u' : Lat w2, w' = u'.val := fun u =>
    (hrf2 _ (More.trans (More.trans HM.out.1 hm2) u.more)).mono fun e w' ⟨he, hk⟩ => ⟨he, ⟨u, hk⟩⟩
  have k19n : ∀ u : Lat w2, Calls Try.prog 19 #[.pointer none, .int .i64 x, .int .i64 y, .int .u64 v] u.val fun e w' => e = .returned (.int .i64 (-1)) ∧ ∃ u' : Lat w2, w' = u'.val := fun u =>
    (none_find v x y _).mono fun e w' ⟨he, hk⟩ => ⟨he, ⟨u, hk⟩⟩
  have k7 : ∀ u : Lat w2, Calls Try.prog 7 #[] u.val fun e w' => e = .returned (.bool true) ∧ ∃ u' : Lat w2, w' = u'.val := fun u =>
    (live _).mono fun e w' ⟨he, hk⟩ => ⟨he, ⟨⟨w', More.trans u.more hk⟩, rfl⟩⟩
  clear hm2 HM H2 hri hfit c0 c1 hpf hrf2
  have hne : Nonempty (Lat w2) := ⟨⟨w2, Below.refl _ _⟩⟩
  refine wp_region_lat (by kernel_rfl) (by kernel_rfl) ?_
  repeat (quiet_step (first
    | (go_at_call 20; exact k20 _)
    | (go_at_call 7; exact k7 _)
    | (go_at_call_of 19 (Value.pointer none); exact k19n _)
    | (go_at_call 19; exact k19 _)))
  refine wpQuiet_nil ?_
  rintro _ ⟨u, rfl⟩
  go_wp2
  go_ret
  exact ⟨rfl, More.trans HH.out.1 u.more⟩

theorem packFinds (s : Value) (K v : Nat) (f : Nat → Nat) (x y : Int) (w : World) (h : Rd w s K f) (hf : ∀ j, j < K → f j < 18446744073709551616) (hK : K ≤ 9223372036854775807) :
    Calls Try.prog 5 #[s, .agg #[.int .i64 x, .int .i64 y], .int .u64 v] w fun e w' => e = .returned (.bool true) ∧ Below w.heap.size w w' := by
  by_cases hbig : 100 < K
  · exact packFinds_big s K v f x y w h hK hbig
  · by_cases hR : Rising f K x y
    · exact packFinds_rises s K v f x y w h hf (by omega) hR
    · exact packFinds_falls s K v f x y w h (by omega) hR

end Go.Proofs.Ytbjdjidamocmoaa
