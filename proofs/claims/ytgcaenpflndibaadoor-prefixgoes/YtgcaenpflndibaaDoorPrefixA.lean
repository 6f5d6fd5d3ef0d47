/-
  prefix: the sums of numbers, the program's and the document's.
-/
import Derived.Test.YtgcaenpflndibaaDoorPrefixMath
import Derived.Test.YtgcaenpflndibaaDoorEliasD
import Derived.OwnWalk
import Derived.Deep.AppendLies
namespace Go.Proofs.YtgcaenpflndibaaDoor
open Go.RowKit

/-- 'make' of one element with room for n. -/
theorem wpList_make_one {P : Program} (w : World) {ops : Array Oper} {rest : List Oper} {o : Oper} {a : Act} {Q : Exit → Act → World → Prop}
    (hg : o.guard = none) (l c : Operand) (t : TypeId) (hop : o.op = Op.makeSlice t l c)
    (base : Nat) (e : TypeId) (i : TypeInfo) (z : Value) (h1 : P.underlying t = some (.slice e)) (h2 : P.info? e = some i) (h3 : i.zero = some z) (h4 : i.size = 1) (hz : z.cells = #[z])
    (kl kc : IntKind) (C : Int) (n : Nat) (hl : a.eval l = .int kl 1) (hc : a.eval c = .int kc C) (hC : C = (n : Int)) (hn : 1 ≤ n) (b2 : i.bytes * n ≤ 281474976710656) (b3 : n ≤ maxLen) (b4 : base ≤ w.heap.size)
    (hK : ∀ w', w'.ownsRow base e 1 (.slice (some ⟨w.heap.size, 0, none⟩) 1 n) 1 [z] → w.grownBy w' none → wpList P ops Q rest (a.put o.dst (.slice (some ⟨w.heap.size, 0, none⟩) 1 n)) w') :
    wpList P ops Q (o :: rest) a w := by
  refine wpList_plain hg fun K hK' => ?_
  subst hC
  have h63' : (n : Int) ≤ 9223372036854775807 := by simp [maxLen] at b3; omega
  have hb' : (i.bytes : Int) * (n : Int) ≤ 281474976710656 := by
    have h : ((i.bytes * n : Nat) : Int) ≤ 281474976710656 := by omega
    rwa [Int.natCast_mul] at h
  have hr := run_make (P := P) w t e i z h1 h2 h3 kl kc 1 n (by omega) (by omega) hb' h63'
  simp only [Int.toNat_natCast, Int.toNat_one, h4, Nat.mul_one, hz] at hr
  have ho : (w.alloc (.cells (madeCells #[z] n) e)).ownsRow base e 1 (.slice (some ⟨w.heap.size, 0, none⟩) 1 n) 1 [z] :=
    ⟨rfl, .inr ⟨w.heap.size, n, madeCells #[z] n, rfl, b4, heap_alloc_new w _, hn, b3, by rw [size_madeCells, Nat.mul_one], by
      rw [toList_madeCells_one, List.take_replicate, show min (1 * 1) n = 1 by omega]; rfl⟩⟩
  unfold Oper.wp
  simp [execOp, hop, hl, hc, hr, Result.andThen]
  exact hK' _ _ (hK _ ho (World.grownBy_alloc w _ none))

theorem more_grown {w w' : World} (h : w.grownBy w' none) : More w w' := ⟨h.os, h.tape, h.output, h.size, fun k hk => h.block k hk (by simp)⟩

/-- A row of ints of the call's own, as it is read. -/
theorem zrd_own {w : World} {base K : Nat} {v : Value} {f : Nat → Nat} (h : w.ownsRow base 3 1 v K (ints f K)) : ZRd w v K (fun j => (f j : Int)) := by
  have h' := h
  rcases h.2 with ⟨rfl, rfl⟩ | ⟨g, cap, cur, rfl, hb, hg, _⟩
  · exact .inl ⟨rfl, _, _, rfl⟩
  · refine .inr ⟨g, 0, cap, rfl, lt_of_block hg, fun j hj => ?_⟩
    have := h'.cellAt j (by omega)
    rw [ints_get _ _ _ hj] at this
    rw [Nat.zero_add]; exact this

/-- What is told of the sums of the first K numbers. -/
def SumsOf (g : Nat → Int) (K base : Nat) (e : Ending) (w' : World) : Prop :=
  (Fits g K ∧ ∃ ao cap, e = .returned (.tuple #[.slice ao (K + 1) cap, .bool true]) ∧ w'.ownsRow base 3 1 (.slice ao (K + 1) cap) (K + 1) (ints (sm fun j => (g j).toNat) (K + 1))) ∨
  (¬ Fits g K ∧ e = .returned (.tuple #[.slice none 0 0, .bool false]))

set_option maxHeartbeats 800000 in
set_option maxRecDepth 1000000 in
theorem px_sums (v : Value) (K : Nat) (g : Nat → Int) (w : World) (h : ZRd w v K g) (hK : K ≤ 900) :
    Calls Tryd.prog 12 #[v, .int .i64 1099511627776] w fun e w' => SumsOf g K w.heap.size e w' ∧ More w w' := by
  obtain ⟨ao, cap, rfl⟩ := h.shape
  obtain ⟨i0, hi, hz0, hz1, hz2⟩ := info_parts Tryd.infoInt
  have HH := Hid.mk h
  clear h
  go_enter Tryd.func12, Tryd.ntmps12
  go_wp2_with (refine wpList_make_one _ rfl _ _ 22 rfl w.heap.size 3 i0 (.int .i64 0) Tryd.underlying22 hi hz0 hz1 rfl .i64 .i64 _ (K + 1) rfl rfl (by omega) (by omega) (by rw [hz2]; omega) (by unfold maxLen; omega) (Nat.le_refl _) ?_; intro w1 hown hg; have H1 := Hid.mk (And.intro hown (more_grown hg)); clear hown hg)
  go_loopw [17, 7, 6] (fun i s vl wr => ∃ k y : Nat, k ≤ K ∧ i = .int .i64 k ∧ s = .int .i64 y ∧ y ≤ 1099511627776 ∧ Hid (Fits g k ∧ y = sm (fun j => (g j).toNat) k ∧ wr.ownsRow w.heap.size 3 1 vl (k + 1) (ints (sm fun j => (g j).toNat) (k + 1)) ∧ More w wr)) (fun i _ _ _ => K - (intOf i).toNat)
  case atStart => exact ⟨0, 0, Nat.zero_le _, rfl, rfl, by omega, Hid.mk ⟨fits_zero g, rfl, H1.out⟩⟩
  case round =>
    obtain ⟨k, y, hk, rfl, rfl, hy, HR⟩ := hrel
    obtain ⟨af, cf, rfl⟩ := shape_of HR.out.2.2.1
    by_cases hkK : k < K
    · obtain ⟨b, o, rfl, hc⟩ := HH.out.cell (w' := wr) k hkK
      have hck := hc HR.out.2.2.2
      clear hc
      obtain ⟨x, hx⟩ : ∃ x, g k = x := ⟨_, rfl⟩
      rw [hx] at hck
      have HX := Hid.mk hx
      clear hx
      by_cases h1 : x < 0
      · have he : Hid (¬ Fits g K) := Hid.mk fun h => by have := h.1 k hkK; rw [HX.out] at this; omega
        go_wp2
        go_ret2
        exact ⟨.inr ⟨he.out, rfl⟩, HR.out.2.2.2⟩
      by_cases h2 : 1099511627776 - (y : Int) < x
      · have he : Hid (¬ Fits g K) := Hid.mk fun h => by
          have := (fits_below h (show k + 1 ≤ K by omega)).2
          rw [sm, ← HR.out.2.1, HX.out] at this; omega
        go_wp2
        go_ret2
        exact ⟨.inr ⟨he.out, rfl⟩, HR.out.2.2.2⟩
      · obtain ⟨X, rfl⟩ := Int.eq_ofNat_of_zero_le (show 0 ≤ x by omega)
        obtain ⟨Y, hY⟩ : ∃ Y, y + X = Y := ⟨_, rfl⟩
        have hYi : (y : Int) + (X : Int) = (Y : Int) := by omega
        have hYb : Y ≤ 1099511627776 := by omega
        have hwY : IntKind.i64.wrap (Y : Int) = (Y : Int) := by rw [IntKind.wrap_i64]; omega
        have HF : Hid (Fits g (k + 1) ∧ sm (fun j => (g j).toNat) (k + 1) = Y) := Hid.mk ⟨fits_succ HR.out.1 HR.out.2.1 (by rw [HX.out]; omega) (by rw [HX.out]; omega), by rw [sm, ← HR.out.2.1, HX.out]; simpa using hY⟩
        clear hY
        go_wp2_with (at_builtin; refine wpList_append_lies _ rfl (.tmp 33) (.tmp 35) 22 rfl w.heap.size 3 i0 (.int .i64 0) 1 8 Tryd.underlying22 hi hz0 hz1 hz2 rfl (by decide) _ _ _ rfl (HR.out.2.2.1.alloc _) ⟨wr.heap.size, 0, none⟩ 1 1 [.int .i64 (Y : Int)] rfl rfl (one_cell _ _ _) (one_i64 _) (by decide) (by unfold maxLen; omega) (by omega) (by have := HR.out.2.2.2.size; simp; omega) (wr.heap.size + 1) (by simp) ?_
                     intro g1 cg1 w2 hown hgr _ _
                     have hm2 : More w w2 := (HR.out.2.2.2.alloc HR.out.2.2.2.size _).grown hgr (by have := HR.out.2.2.2.size; simp; omega) (fun k hk => (HR.out.2.2.1.lt k hk).1)
                     rw [← HF.out.2, ← ints_succ] at hown
                     have H2 := Hid.mk (And.intro hown hm2)
                     clear hown hgr hm2)
        exact ⟨⟨k + 1, Y, by omega, by go_num, rfl, hYb, Hid.mk ⟨HF.out.1, HF.out.2.symm, H2.out⟩⟩, by simp [intOf]; omega⟩
    · obtain rfl : k = K := by omega
      go_wp2
      go_ret2
      exact ⟨.inl ⟨HR.out.1, _, _, rfl, HR.out.2.2.1⟩, HR.out.2.2.2⟩

set_option maxHeartbeats 800000 in
set_option maxRecDepth 1000000 in
theorem refx_sums (v : Value) (K : Nat) (g : Nat → Int) (w : World) (h : ZRd w v K g) (hK : K ≤ 900) :
    Calls Tryd.prog 5 #[v] w fun e w' => SumsOf g K w.heap.size e w' ∧ More w w' := by
  obtain ⟨ao, cap, rfl⟩ := h.shape
  obtain ⟨i0, hi, hz0, hz1, hz2⟩ := info_parts Tryd.infoInt
  have HH := Hid.mk h
  clear h
  go_enter Tryd.func5, Tryd.ntmps5
  go_wp2
  go_loopw [6, 5, 4] (fun i s vl wr => ∃ k y : Nat, k ≤ K ∧ i = .int .i64 k ∧ s = .int .i64 y ∧ y ≤ 1099511627776 ∧ Hid (Fits g k ∧ y = sm (fun j => (g j).toNat) k ∧ wr.ownsRow w.heap.size 3 1 vl (k + 1) (ints (sm fun j => (g j).toNat) (k + 1)) ∧ More w wr)) (fun i _ _ _ => K - (intOf i).toNat)
  case atStart => exact ⟨0, 0, Nat.zero_le _, rfl, rfl, by omega, Hid.mk ⟨fits_zero g, rfl, World.ownsRow_lit w #[.int .i64 0] 1 (Nat.le_refl _) (by decide) rfl, more_alloc _ _⟩⟩
  case round =>
    obtain ⟨k, y, hk, rfl, rfl, hy, HR⟩ := hrel
    obtain ⟨af, cf, rfl⟩ := shape_of HR.out.2.2.1
    by_cases hkK : k < K
    · obtain ⟨b, o, rfl, hc⟩ := HH.out.cell (w' := wr) k hkK
      have hck := hc HR.out.2.2.2
      clear hc
      obtain ⟨x, hx⟩ : ∃ x, g k = x := ⟨_, rfl⟩
      rw [hx] at hck
      have HX := Hid.mk hx
      clear hx
      by_cases h1 : x < 0
      · have he : Hid (¬ Fits g K) := Hid.mk fun h => by have := h.1 k hkK; rw [HX.out] at this; omega
        go_wp2
        go_ret2
        exact ⟨.inr ⟨he.out, rfl⟩, HR.out.2.2.2⟩
      by_cases h2 : 1099511627776 - (y : Int) < x
      · have he : Hid (¬ Fits g K) := Hid.mk fun h => by
          have := (fits_below h (show k + 1 ≤ K by omega)).2
          rw [sm, ← HR.out.2.1, HX.out] at this; omega
        go_wp2
        go_ret2
        exact ⟨.inr ⟨he.out, rfl⟩, HR.out.2.2.2⟩
      · obtain ⟨X, rfl⟩ := Int.eq_ofNat_of_zero_le (show 0 ≤ x by omega)
        obtain ⟨Y, hY⟩ : ∃ Y, y + X = Y := ⟨_, rfl⟩
        have hYi : (y : Int) + (X : Int) = (Y : Int) := by omega
        have hYb : Y ≤ 1099511627776 := by omega
        have hwY : IntKind.i64.wrap (Y : Int) = (Y : Int) := by rw [IntKind.wrap_i64]; omega
        have HF : Hid (Fits g (k + 1) ∧ sm (fun j => (g j).toNat) (k + 1) = Y) := Hid.mk ⟨fits_succ HR.out.1 HR.out.2.1 (by rw [HX.out]; omega) (by rw [HX.out]; omega), by rw [sm, ← HR.out.2.1, HX.out]; simpa using hY⟩
        clear hY
        go_wp2_with (at_builtin; refine wpList_append_lies _ rfl (.tmp 34) (.tmp 36) 22 rfl w.heap.size 3 i0 (.int .i64 0) 1 8 Tryd.underlying22 hi hz0 hz1 hz2 rfl (by decide) _ _ _ rfl (HR.out.2.2.1.alloc _) ⟨wr.heap.size, 0, none⟩ 1 1 [.int .i64 (Y : Int)] rfl rfl (one_cell _ _ _) (one_i64 _) (by decide) (by unfold maxLen; omega) (by omega) (by have := HR.out.2.2.2.size; simp; omega) (wr.heap.size + 1) (by simp) ?_
                     intro g1 cg1 w2 hown hgr _ _
                     have hm2 : More w w2 := (HR.out.2.2.2.alloc HR.out.2.2.2.size _).grown hgr (by have := HR.out.2.2.2.size; simp; omega) (fun k hk => (HR.out.2.2.1.lt k hk).1)
                     rw [← HF.out.2, ← ints_succ] at hown
                     have H2 := Hid.mk (And.intro hown hm2)
                     clear hown hgr hm2)
        exact ⟨⟨k + 1, Y, by omega, by go_num, rfl, hYb, Hid.mk ⟨HF.out.1, HF.out.2.symm, H2.out⟩⟩, by simp [intOf]; omega⟩
    · obtain rfl : k = K := by omega
      go_wp2
      go_ret2
      exact ⟨.inl ⟨HR.out.1, _, _, rfl, HR.out.2.2.1⟩, HR.out.2.2.2⟩

end Go.Proofs.YtgcaenpflndibaaDoor
