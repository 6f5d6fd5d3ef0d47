/-
  Numbers in any order, plainly: their sums, parts of them, and of which number a unit is one.
  prefix: the sums of numbers, the program's and the document's.
-/
import Derived.Test.YtbjgbigalfhnjaaGreatDoorSet08
import Derived.Test.YtbjgbigalfhnjaaGreatDoorSet12
import Derived.OwnWalk
import Derived.Deep.AppendLies
namespace Go.Proofs.YtbjgbigalfhnjaaGreatDoor

/-- What the first k numbers come to together. -/
def sm (f : Nat → Nat) : Nat → Nat
  | 0 => 0
  | k + 1 => sm f k + f k
theorem sm_mono (f : Nat → Nat) {i j : Nat} (h : i ≤ j) : sm f i ≤ sm f j := by
  induction j with
  | zero => obtain rfl : i = 0 := by omega
            exact Nat.le_refl _
  | succ j ih =>
    by_cases e : i = j + 1
    · subst e; exact Nat.le_refl _
    · have := ih (by omega); rw [sm]; omega
theorem sm_climbs {f : Nat → Nat} {n : Nat} (h : sm f n ≤ 1099511627776) : Climbs (sm f) (n + 1) :=
  ⟨fun i hi => Nat.le_trans (sm_mono f (by omega)) h, fun i hi => sm_mono f (by omega)⟩
theorem sm_part {f : Nat → Nat} {n k : Nat} (h : sm f n ≤ 1099511627776) (hk : k < n) : sm f k + f k ≤ 1099511627776 := Nat.le_trans (sm_mono f (show k + 1 ≤ n by omega)) h
theorem sm_congr {f g : Nat → Nat} (k : Nat) (h : ∀ j, j < k → f j = g j) : sm f k = sm g k := by
  induction k with
  | zero => rfl
  | succ k ih => rw [sm, sm, ih (fun j hj => h j (by omega)), h k (by omega)]

/-- The first k numbers may be: none is below 0, and together they are at most 2^40. -/
def Fits (g : Nat → Int) (k : Nat) : Prop := (∀ j, j < k → 0 ≤ g j) ∧ sm (fun j => (g j).toNat) k ≤ 1099511627776
theorem fits_zero (g : Nat → Int) : Fits g 0 := ⟨fun j hj => by omega, by simp [sm]⟩
theorem fits_succ {g : Nat → Int} {k y : Nat} (h : Fits g k) (hy : y = sm (fun j => (g j).toNat) k) (h0 : 0 ≤ g k) (h1 : g k ≤ 1099511627776 - (y : Int)) : Fits g (k + 1) := by
  refine ⟨fun j hj => ?_, ?_⟩
  · rcases (show j < k ∨ j = k by omega) with e | rfl
    · exact h.1 j e
    · exact h0
  · rw [sm, ← hy]; omega
theorem fits_below {g : Nat → Int} {k K : Nat} (h : Fits g K) (hk : k ≤ K) : Fits g k := ⟨fun j hj => h.1 j (by omega), Nat.le_trans (sm_mono _ hk) h.2⟩

/-! ### Parts of them -/
/-- What the numbers from the place lo to below hi come to together. -/
def sumZ (f : Nat → Nat) (n : Nat) (lo hi : Int) : Int := if min hi n ≤ max lo 0 then 0 else (sm f (min hi n).toNat : Int) - (sm f (max lo 0).toNat : Int)
/-- The same, one by one. -/
def rsum (f : Nat → Nat) (lo hi : Int) : Nat → Nat
  | 0 => 0
  | k + 1 => rsum f lo hi k + if lo ≤ k ∧ (k : Int) < hi then f k else 0
theorem rsum_le (f : Nat → Nat) (lo hi : Int) (k : Nat) : rsum f lo hi k ≤ sm f k := by
  induction k with
  | zero => simp [rsum]
  | succ k ih => rw [rsum, sm]; split <;> omega
theorem sum_is (f : Nat → Nat) (lo hi : Int) (n : Nat) : sumZ f n lo hi = (rsum f lo hi n : Nat) := by
  induction n with
  | zero => unfold sumZ; rw [if_pos (by omega)]; rfl
  | succ n ih =>
    rw [rsum]
    by_cases h : lo ≤ n ∧ (n : Int) < hi
    · rw [if_pos h, Int.natCast_add, ← ih]
      unfold sumZ
      rw [if_neg (by omega), show (min hi ((n + 1 : Nat) : Int)).toNat = n + 1 by omega, sm]
      by_cases h2 : min hi (n : Int) ≤ max lo 0
      · rw [if_pos h2, show (max lo 0).toNat = n by omega]; omega
      · rw [if_neg h2, show (min hi (n : Int)).toNat = n by omega]; omega
    · rw [if_neg h]
      refine Eq.trans ?_ ih
      unfold sumZ
      by_cases h2 : hi ≤ n
      · rw [show min hi ((n + 1 : Nat) : Int) = min hi n by omega]
      · rw [if_pos (by omega), if_pos (by omega)]
theorem sum_one (f : Nat → Nat) (n i : Nat) (h : i < n) : sumZ f n i ((i : Int) + 1) = f i := by
  unfold sumZ
  rw [if_neg (by omega), show (min ((i : Int) + 1) (n : Int)).toNat = i + 1 by omega, show (max (i : Int) 0).toNat = i by omega, sm]
  omega

/-! ### Of which number a unit is one -/
def whereZ (f : Nat → Nat) (n : Nat) (t : Int) : Int := if t < 0 ∨ (sm f n : Int) ≤ t then -1 else aheadZ (sm f) (n + 1) t
theorem where_miss (f : Nat → Nat) (n : Nat) (t : Int) (h : t < 0 ∨ (sm f n : Int) ≤ t) : whereZ f n t = -1 := if_pos h
theorem where_hit {f : Nat → Nat} {n : Nat} (hf : sm f n ≤ 1099511627776) (k t : Nat) (hk : k < n) (h1 : sm f k ≤ t) (h2 : t < sm f (k + 1)) : whereZ f n t = k := by
  have hn := sm_mono f (show k + 1 ≤ n by omega)
  unfold whereZ
  rw [if_neg (by omega)]
  unfold aheadZ
  have hb : belI (sm f) (min (t : Int) 1099511627776 + 1) (n + 1) = k + 1 := by
    unfold belI
    rw [show nearV (min (t : Int) 1099511627776 + 1) = t + 1 by unfold nearV; omega]
    exact bel_of _ _ _ _ (by omega) (fun j hj => by have := sm_mono f (show j ≤ k by omega); omega) (fun j a b => by have := sm_mono f a; omega)
  rw [hb]
  unfold placeZ
  rw [if_pos (by omega)]; omega

/-- The last sum is all numbers together. -/
theorem last_sum (f : Nat → Nat) (n : Nat) : atZ (sm f) (n + 1) (((n + 1 : Nat) : Int) - 1) = sm f n := by
  rw [show ((n + 1 : Nat) : Int) - 1 = (n : Nat) by omega, atZ_in _ _ _ (Nat.lt_succ_self n)]

end Go.Proofs.YtbjgbigalfhnjaaGreatDoor

namespace Go.Proofs.YtbjgbigalfhnjaaGreatDoor
open Go.RowKit

/-- 'make' of one element with room for n. -/
theorem wpList_make_one {P : Program} (w : World) {ops : Array Oper} {rest : List Oper} {o : Oper} {a : Act} {Q : Exit → Act → World → Prop}
    (hg : o.guard = none) (l c : Operand) (t : TypeId) (hop : o.op = Op.makeSlice t l c)
    (base : Nat) (e : TypeId) (i : TypeInfo) (z : Value) (h1 : P.underlying t = some (.slice e)) (h2 : P.info? e = some i) (h3 : i.zero = some z) (h4 : i.size = 1) (hz : z.cells = #[z])
    (kl kc : IntKind) (C : Int) (n : Nat) (hl : a.eval l = .int kl 1) (hc : a.eval c = .int kc C) (hC : C = (n : Int)) (hn : 1 ≤ n) (b2 : i.bytes * n ≤ 281474976710656) (b3 : n ≤ maxLen) (b4 : base ≤ w.heap.size)
    (hK : ∀ w', w'.ownsRow base e 1 (.slice (some ⟨w.heap.size, 0, none⟩) 1 n) 1 [z] → w.grownBy w' none → wpList P ops Q rest (a.put o.dst (.slice (some ⟨w.heap.size, 0, none⟩) 1 n)) w') :
    wpList P ops Q (o :: rest) a w := by
  refine wpList_plain hg fun K hK' => ?_
  subst hC
  have h63' : (n : Int) ≤ 9223372036854775807 := by simp [maxLen] at b3; omega
  have hb' : (i.bytes : Int) * (n : Int) ≤ 281474976710656 := by
    have h : ((i.bytes * n : Nat) : Int) ≤ 281474976710656 := by omega
    rwa [Int.natCast_mul] at h
  have hr := run_make (P := P) w t e i z h1 h2 h3 kl kc 1 n (by omega) (by omega) hb' h63'
  simp only [Int.toNat_natCast, Int.toNat_one, h4, Nat.mul_one, hz] at hr
  have ho : (w.alloc (.cells (madeCells #[z] n) e)).ownsRow base e 1 (.slice (some ⟨w.heap.size, 0, none⟩) 1 n) 1 [z] :=
    ⟨rfl, .inr ⟨w.heap.size, n, madeCells #[z] n, rfl, b4, heap_alloc_new w _, hn, b3, by rw [size_madeCells, Nat.mul_one], by
      rw [toList_madeCells_one, List.take_replicate, show min (1 * 1) n = 1 by omega]; rfl⟩⟩
  unfold Oper.wp
  simp [execOp, hop, hl, hc, hr, Result.andThen]
  exact hK' _ _ (hK _ ho (World.grownBy_alloc w _ none))

theorem more_grown {w w' : World} (h : w.grownBy w' none) : More w w' := ⟨h.os, h.tape, h.output, h.size, fun k hk => h.block k hk (by simp)⟩

/-- A row of ints of the call's own, as it is read. -/
theorem zrd_own {w : World} {base K : Nat} {v : Value} {f : Nat → Nat} (h : w.ownsRow base 3 1 v K (ints f K)) : ZRd w v K (fun j => (f j : Int)) := by
  have h' := h
  rcases h.2 with ⟨rfl, rfl⟩ | ⟨g, cap, cur, rfl, hb, hg, _⟩
  · exact .inl ⟨rfl, _, _, rfl⟩
  · refine .inr ⟨g, 0, cap, rfl, lt_of_block hg, fun j hj => ?_⟩
    have := h'.cellAt j (by omega)
    rw [ints_get _ _ _ hj] at this
    rw [Nat.zero_add]; exact this

/-- What is told of the sums of the first K numbers. -/
def SumsOf (g : Nat → Int) (K base : Nat) (e : Ending) (w' : World) : Prop :=
  (Fits g K ∧ ∃ ao cap, e = .returned (.tuple #[.slice ao (K + 1) cap, .bool true]) ∧ w'.ownsRow base 3 1 (.slice ao (K + 1) cap) (K + 1) (ints (sm fun j => (g j).toNat) (K + 1))) ∨
  (¬ Fits g K ∧ e = .returned (.tuple #[.slice none 0 0, .bool false]))

set_option maxHeartbeats 800000 in
set_option maxRecDepth 1000000 in
theorem px_sums (v : Value) (K : Nat) (g : Nat → Int) (w : World) (h : ZRd w v K g) (hK : K ≤ 3900) :
    Calls Tryz.prog 25 #[v, .int .i64 1099511627776] w fun e w' => SumsOf g K w.heap.size e w' ∧ More w w' := by
  obtain ⟨ao, cap, rfl⟩ := h.shape
  obtain ⟨i0, hi, hz0, hz1, hz2⟩ := info_parts Tryz.infoInt
  have HH := Hid.mk h
  clear h
  go_enter Tryz.func25, Tryz.ntmps25
  go_wp2_with (refine wpList_make_one _ rfl _ _ 22 rfl w.heap.size 3 i0 (.int .i64 0) Tryz.underlying22 hi hz0 hz1 rfl .i64 .i64 _ (K + 1) rfl rfl (by omega) (by omega) (by rw [hz2]; omega) (by unfold maxLen; omega) (Nat.le_refl _) ?_; intro w1 hown hg; have H1 := Hid.mk (And.intro hown (more_grown hg)); clear hown hg)
  go_loopw [17, 7, 6] (fun i s vl wr => ∃ k y : Nat, k ≤ K ∧ i = .int .i64 k ∧ s = .int .i64 y ∧ y ≤ 1099511627776 ∧ Hid (Fits g k ∧ y = sm (fun j => (g j).toNat) k ∧ wr.ownsRow w.heap.size 3 1 vl (k + 1) (ints (sm fun j => (g j).toNat) (k + 1)) ∧ More w wr)) (fun i _ _ _ => K - (intOf i).toNat)
  case atStart => exact ⟨0, 0, Nat.zero_le _, rfl, rfl, by omega, Hid.mk ⟨fits_zero g, rfl, H1.out⟩⟩
  case round =>
    obtain ⟨k, y, hk, rfl, rfl, hy, HR⟩ := hrel
    obtain ⟨af, cf, rfl⟩ := shape_of HR.out.2.2.1
    by_cases hkK : k < K
    · obtain ⟨b, o, rfl, hc⟩ := HH.out.cell (w' := wr) k hkK
      have hck := hc HR.out.2.2.2
      clear hc
      obtain ⟨x, hx⟩ : ∃ x, g k = x := ⟨_, rfl⟩
      rw [hx] at hck
      have HX := Hid.mk hx
      clear hx
      by_cases h1 : x < 0
      · have he : Hid (¬ Fits g K) := Hid.mk fun h => by have := h.1 k hkK; rw [HX.out] at this; omega
        go_wp2
        go_ret2
        exact ⟨.inr ⟨he.out, rfl⟩, HR.out.2.2.2⟩
      by_cases h2 : 1099511627776 - (y : Int) < x
      · have he : Hid (¬ Fits g K) := Hid.mk fun h => by
          have := (fits_below h (show k + 1 ≤ K by omega)).2
          rw [sm, ← HR.out.2.1, HX.out] at this; omega
        go_wp2
        go_ret2
        exact ⟨.inr ⟨he.out, rfl⟩, HR.out.2.2.2⟩
      · obtain ⟨X, rfl⟩ := Int.eq_ofNat_of_zero_le (show 0 ≤ x by omega)
        obtain ⟨Y, hY⟩ : ∃ Y, y + X = Y := ⟨_, rfl⟩
        have hYi : (y : Int) + (X : Int) = (Y : Int) := by omega
        have hYb : Y ≤ 1099511627776 := by omega
        have hwY : IntKind.i64.wrap (Y : Int) = (Y : Int) := by rw [IntKind.wrap_i64]; omega
        have HF : Hid (Fits g (k + 1) ∧ sm (fun j => (g j).toNat) (k + 1) = Y) := Hid.mk ⟨fits_succ HR.out.1 HR.out.2.1 (by rw [HX.out]; omega) (by rw [HX.out]; omega), by rw [sm, ← HR.out.2.1, HX.out]; simpa using hY⟩
        clear hY
        go_wp2_with (at_builtin; refine wpList_append_lies _ rfl (.tmp 33) (.tmp 35) 22 rfl w.heap.size 3 i0 (.int .i64 0) 1 8 Tryz.underlying22 hi hz0 hz1 hz2 rfl (by decide) _ _ _ rfl (HR.out.2.2.1.alloc _) ⟨wr.heap.size, 0, none⟩ 1 1 [.int .i64 (Y : Int)] rfl rfl (one_cell _ _ _) (one_i64 _) (by decide) (by unfold maxLen; omega) (by omega) (by have := HR.out.2.2.2.size; simp; omega) (wr.heap.size + 1) (by simp) ?_
                     intro g1 cg1 w2 hown hgr _ _
                     have hm2 : More w w2 := (HR.out.2.2.2.alloc HR.out.2.2.2.size _).grown hgr (by have := HR.out.2.2.2.size; simp; omega) (fun k hk => (HR.out.2.2.1.lt k hk).1)
                     rw [← HF.out.2, ← ints_succ] at hown
                     have H2 := Hid.mk (And.intro hown hm2)
                     clear hown hgr hm2)
        exact ⟨⟨k + 1, Y, by omega, by go_num, rfl, hYb, Hid.mk ⟨HF.out.1, HF.out.2.symm, H2.out⟩⟩, by simp [intOf]; omega⟩
    · obtain rfl : k = K := by omega
      go_wp2
      go_ret2
      exact ⟨.inl ⟨HR.out.1, _, _, rfl, HR.out.2.2.1⟩, HR.out.2.2.2⟩

set_option maxHeartbeats 800000 in
set_option maxRecDepth 1000000 in
theorem refx_sums (v : Value) (K : Nat) (g : Nat → Int) (w : World) (h : ZRd w v K g) (hK : K ≤ 3900) :
    Calls Tryz.prog 5 #[v] w fun e w' => SumsOf g K w.heap.size e w' ∧ More w w' := by
  obtain ⟨ao, cap, rfl⟩ := h.shape
  obtain ⟨i0, hi, hz0, hz1, hz2⟩ := info_parts Tryz.infoInt
  have HH := Hid.mk h
  clear h
  go_enter Tryz.func5, Tryz.ntmps5
  go_wp2
  go_loopw [6, 5, 4] (fun i s vl wr => ∃ k y : Nat, k ≤ K ∧ i = .int .i64 k ∧ s = .int .i64 y ∧ y ≤ 1099511627776 ∧ Hid (Fits g k ∧ y = sm (fun j => (g j).toNat) k ∧ wr.ownsRow w.heap.size 3 1 vl (k + 1) (ints (sm fun j => (g j).toNat) (k + 1)) ∧ More w wr)) (fun i _ _ _ => K - (intOf i).toNat)
  case atStart => exact ⟨0, 0, Nat.zero_le _, rfl, rfl, by omega, Hid.mk ⟨fits_zero g, rfl, World.ownsRow_lit w #[.int .i64 0] 1 (Nat.le_refl _) (by decide) rfl, more_alloc _ _⟩⟩
  case round =>
    obtain ⟨k, y, hk, rfl, rfl, hy, HR⟩ := hrel
    obtain ⟨af, cf, rfl⟩ := shape_of HR.out.2.2.1
    by_cases hkK : k < K
    · obtain ⟨b, o, rfl, hc⟩ := HH.out.cell (w' := wr) k hkK
      have hck := hc HR.out.2.2.2
      clear hc
      obtain ⟨x, hx⟩ : ∃ x, g k = x := ⟨_, rfl⟩
      rw [hx] at hck
      have HX := Hid.mk hx
      clear hx
      by_cases h1 : x < 0
      · have he : Hid (¬ Fits g K) := Hid.mk fun h => by have := h.1 k hkK; rw [HX.out] at this; omega
        go_wp2
        go_ret2
        exact ⟨.inr ⟨he.out, rfl⟩, HR.out.2.2.2⟩
      by_cases h2 : 1099511627776 - (y : Int) < x
      · have he : Hid (¬ Fits g K) := Hid.mk fun h => by
          have := (fits_below h (show k + 1 ≤ K by omega)).2
          rw [sm, ← HR.out.2.1, HX.out] at this; omega
        go_wp2
        go_ret2
        exact ⟨.inr ⟨he.out, rfl⟩, HR.out.2.2.2⟩
      · obtain ⟨X, rfl⟩ := Int.eq_ofNat_of_zero_le (show 0 ≤ x by omega)
        obtain ⟨Y, hY⟩ : ∃ Y, y + X = Y := ⟨_, rfl⟩
        have hYi : (y : Int) + (X : Int) = (Y : Int) := by omega
        have hYb : Y ≤ 1099511627776 := by omega
        have hwY : IntKind.i64.wrap (Y : Int) = (Y : Int) := by rw [IntKind.wrap_i64]; omega
        have HF : Hid (Fits g (k + 1) ∧ sm (fun j => (g j).toNat) (k + 1) = Y) := Hid.mk ⟨fits_succ HR.out.1 HR.out.2.1 (by rw [HX.out]; omega) (by rw [HX.out]; omega), by rw [sm, ← HR.out.2.1, HX.out]; simpa using hY⟩
        clear hY
        go_wp2_with (at_builtin; refine wpList_append_lies _ rfl (.tmp 34) (.tmp 36) 22 rfl w.heap.size 3 i0 (.int .i64 0) 1 8 Tryz.underlying22 hi hz0 hz1 hz2 rfl (by decide) _ _ _ rfl (HR.out.2.2.1.alloc _) ⟨wr.heap.size, 0, none⟩ 1 1 [.int .i64 (Y : Int)] rfl rfl (one_cell _ _ _) (one_i64 _) (by decide) (by unfold maxLen; omega) (by omega) (by have := HR.out.2.2.2.size; simp; omega) (wr.heap.size + 1) (by simp) ?_
                     intro g1 cg1 w2 hown hgr _ _
                     have hm2 : More w w2 := (HR.out.2.2.2.alloc HR.out.2.2.2.size _).grown hgr (by have := HR.out.2.2.2.size; simp; omega) (fun k hk => (HR.out.2.2.1.lt k hk).1)
                     rw [← HF.out.2, ← ints_succ] at hown
                     have H2 := Hid.mk (And.intro hown hm2)
                     clear hown hgr hm2)
        exact ⟨⟨k + 1, Y, by omega, by go_num, rfl, hYb, Hid.mk ⟨HF.out.1, HF.out.2.symm, H2.out⟩⟩, by simp [intOf]; omega⟩
    · obtain rfl : k = K := by omega
      go_wp2
      go_ret2
      exact ⟨.inl ⟨HR.out.1, _, _, rfl, HR.out.2.2.1⟩, HR.out.2.2.2⟩

end Go.Proofs.YtbjgbigalfhnjaaGreatDoor
