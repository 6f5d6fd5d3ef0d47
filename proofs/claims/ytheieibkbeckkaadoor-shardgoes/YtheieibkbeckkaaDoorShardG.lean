/-
  shard: Kinds, Size.
-/
import Derived.Test.YtheieibkbeckkaaDoorShardE
namespace Go.Proofs.YtheieibkbeckkaaDoor
open Go.RowKit

/-- The parts of a sequence, as they are read, if there are none, too. -/
theorem ShAt.rd0 {w : World} {base q : Nat} {f : Nat → Nat} {n : Nat} (h : ShAt w base q f n) : ∃ (s : Nat) (ap : Option Addr) (cap : Nat) (pv : Nat → Value), w.cell? ⟨q, 1, none⟩ = some (.pointer (some ⟨s, 0, none⟩)) ∧ w.cell? ⟨q, 2, none⟩ = some (.slice ap (prts n) cap) ∧
    SeqAt w base s (frs f) (prts n) ∧ ∀ k, k < prts n → ∃ b, ap = some ⟨b, 0, none⟩ ∧ w.cell? ⟨b, k, none⟩ = some (pv k) ∧ PartAt w base (pv k) (prt f k) (prtn n k) := by
  obtain ⟨s, vp, pv, hq, hs, hv, hp⟩ := h.mem
  obtain ⟨c0, c1, c2, _⟩ := cells3 hq
  have hv' := hv
  rcases hv.2 with ⟨rfl, h0⟩ | ⟨b, cap, cur, rfl, _⟩
  · exact ⟨s, none, 0, pv, c1, by rw [c2, h0], hs, fun k hk => by omega⟩
  · exact ⟨s, some ⟨b, 0, none⟩, cap, pv, c1, c2, hs, fun k hk => ⟨b, rfl, by have := hv'.cellAt k (by omega); rw [vals_get _ _ _ hk] at this; exact this, hp k hk⟩⟩

/-- Three ints in a block of their own. -/
def Three (w : World) (b : Nat) (x y z : Nat) : Prop := w.heap[b]? = some (.cells #[.int .i64 x, .int .i64 y, .int .i64 z] 36 (0, 0))
theorem Three.cells {w : World} {b x y z : Nat} (h : Three w b x y z) : w.cell? ⟨b, 0, none⟩ = some (.int .i64 x) ∧ w.cell? ⟨b, 1, none⟩ = some (.int .i64 y) ∧ w.cell? ⟨b, 2, none⟩ = some (.int .i64 z) ∧
    w.frozen? ⟨b, 0, none⟩ = false ∧ w.frozen? ⟨b, 1, none⟩ = false ∧ w.frozen? ⟨b, 2, none⟩ = false := by
  unfold Three at h
  simp [World.cell?, World.frozen?, h]
theorem Three.more {w w' : World} {b x y z : Nat} (h : Three w b x y z) (k : More w w') : Three w' b x y z := by
  unfold Three at *
  rw [k.block b (lt_of_block h)]; exact h
theorem Three.set0 {w : World} {b x y z : Nat} (h : Three w b x y z) (u : Nat) : Three (w.setCell ⟨b, 0, none⟩ (.int .i64 u)) b u y z := by
  unfold Three
  simpa using heap_setCell_same w b 0 #[.int .i64 x, .int .i64 y, .int .i64 z] 36 (.int .i64 u) h
theorem Three.set1 {w : World} {b x y z : Nat} (h : Three w b x y z) (u : Nat) : Three (w.setCell ⟨b, 1, none⟩ (.int .i64 u)) b x u z := by
  unfold Three
  simpa using heap_setCell_same w b 1 #[.int .i64 x, .int .i64 y, .int .i64 z] 36 (.int .i64 u) h
theorem Three.set2 {w : World} {b x y z : Nat} (h : Three w b x y z) (u : Nat) : Three (w.setCell ⟨b, 2, none⟩ (.int .i64 u)) b x y u := by
  unfold Three
  simpa using heap_setCell_same w b 2 #[.int .i64 x, .int .i64 y, .int .i64 z] 36 (.int .i64 u) h
theorem Three.other {w : World} {b c i x y z : Nat} (h : Three w b x y z) (hb : b ≠ c) (u : Value) : Three (w.setCell ⟨c, i, none⟩ u) b x y z := by
  unfold Three at *
  rw [Below.heap_setCell _ _ _ _ hb]; exact h

theorem three_new (w : World) : Three ((w.alloc (.cells #[.int .i64 0, .int .i64 0, .int .i64 0] 36)).alloc (.cells #[.int .i64 0, .int .i64 0, .int .i64 0] 36)) w.heap.size 0 0 0 ∧ Three ((w.alloc (.cells #[.int .i64 0, .int .i64 0, .int .i64 0] 36)).alloc (.cells #[.int .i64 0, .int .i64 0, .int .i64 0] 36)) (w.heap.size + 1) 0 0 0 := by
  have hs : (w.alloc (.cells #[.int .i64 0, .int .i64 0, .int .i64 0] 36)).heap.size = w.heap.size + 1 := by simp
  refine ⟨?_, ?_⟩
  · unfold Three
    rw [Below.heap_alloc _ _ _ (by rw [hs]; omega)]
    exact heap_alloc_new _ _
  · have h := heap_alloc_new (w.alloc (.cells #[.int .i64 0, .int .i64 0, .int .i64 0] 36)) (.cells #[.int .i64 0, .int .i64 0, .int .i64 0] 36)
    rw [hs] at h
    exact h

theorem PartAt.kinds3 {w : World} {base : Nat} {pv : Value} {g : Nat → Nat} {m : Nat} (h : PartAt w base pv g m) :
    ∃ T U F t, pv = .iface T U ∧ kind g m = t ∧ ((F = 89 ∧ t = 0) ∨ (F = 93 ∧ t = 1) ∨ (F = 97 ∧ t = 2)) ∧ (∀ w', (method 214 T U "locution/shard.kind").run Tryd.prog w' = .ok (F, U) w') ∧
      ∀ w', Calls Tryd.prog F #[U] w' fun e w'' => e = .returned (.int .i64 (t : Nat)) ∧ More w' w'' := by
  rcases h with ⟨hk, rfl⟩ | ⟨hk, rfl⟩ | ⟨hk, s, rfl, hs⟩
  · exact ⟨_, _, _, 0, rfl, hk, .inl ⟨rfl, rfl⟩, run_kind_is, fun w' => run_kind w'⟩
  · exact ⟨_, _, _, 1, rfl, hk, .inr (.inl ⟨rfl, rfl⟩), alike_kind_is, fun w' => alike_kind w'⟩
  · exact ⟨_, _, _, 2, rfl, hk, .inr (.inr ⟨rfl, rfl⟩), other_kind_is s, fun w' => other_kind s w'⟩

set_option maxHeartbeats 1600000 in
set_option maxRecDepth 1000000 in
theorem sh_kinds (base q : Nat) (f : Nat → Nat) (n : Nat) (w : World) (h : ShAt w base q f n) :
    Calls Tryd.prog 10 #[.pointer (some ⟨q, 0, none⟩)] w fun e w' => e = .returned (.agg #[.int .i64 (kcnt f n 0 (prts n) : Nat), .int .i64 (kcnt f n 1 (prts n) : Nat), .int .i64 (kcnt f n 2 (prts n) : Nat)]) ∧ More w w' := by
  have hn := h.num
  obtain ⟨s, ap, cap, pv, c1, c2, hs, hp⟩ := h.rd0
  have l1 := World.block_lt_of_cell? w _ c1
  have hpr : prts n ≤ 32 := by unfold prts; omega
  have HH := Hid.mk hp
  clear hp hs h
  generalize prts n = K at *
  go_enter Tryd.func10, Tryd.ntmps10
  go_wp2
  go_loopw [14, 5] (fun i p wr => ∃ k : Nat, k ≤ K ∧ i = .int .i64 k ∧ Hid (Three wr w.heap.size 0 0 0 ∧ Three wr (w.heap.size + 1) (kcnt f n 0 k) (kcnt f n 1 k) (kcnt f n 2 k) ∧ More w wr)) (fun i _ _ => K - (intOf i).toNat)
  case atStart =>
    exact ⟨0, Nat.zero_le _, rfl, Hid.mk ⟨(three_new w).1, (three_new w).2, More.trans (more_alloc _ _) (more_alloc _ _)⟩⟩
  case round =>
    obtain ⟨k, hk, rfl, HR⟩ := hrel
    by_cases hkK : k < K
    · obtain ⟨b, rfl, hc, hpart⟩ := HH.out k hkK
      have lb := World.block_lt_of_cell? w _ hc
      have hck := (HR.out.2.2.cell (p := ⟨b, k, none⟩) lb).trans hc
      obtain ⟨T, U, F, t, hpv, hkd, hF, hme, hat⟩ := hpart.kinds3
      rw [hpv] at hck
      have hx := kcnt_le f n 0 k
      have hy := kcnt_le f n 1 k
      have hz := kcnt_le f n 2 k
      have e0 : kcnt f n 0 (k + 1) = kcnt f n 0 k + if t = 0 then 1 else 0 := by rw [kcnt, hkd]
      have e1 : kcnt f n 1 (k + 1) = kcnt f n 1 k + if t = 1 then 1 else 0 := by rw [kcnt, hkd]
      have e2 : kcnt f n 2 (k + 1) = kcnt f n 2 k + if t = 2 then 1 else 0 := by rw [kcnt, hkd]
      generalize kcnt f n 0 k = x at *
      generalize kcnt f n 1 k = y at *
      generalize kcnt f n 2 k = z at *
      have HE := Hid.mk (And.intro e0 (And.intro e1 e2))
      clear hpart hpv hc e0 e1 e2 hkd
      rcases hF with ⟨rfl, rfl⟩ | ⟨rfl, rfl⟩ | ⟨rfl, rfl⟩
      all_goals
        go_wp2_with (refine (hat wr).mono ?_; rintro e w2 ⟨rfl, hm⟩; obtain ⟨g0, g1, g2, r0, r1, r2⟩ := (HR.out.2.1.more hm).cells; have H2 := Hid.mk hm; clear hm hat)
        have e0 := HE.out.1
        have e1 := HE.out.2.1
        have e2 := HE.out.2.2
        simp at e0 e1 e2
        refine ⟨⟨k + 1, by omega, by go_num, Hid.mk ⟨(HR.out.1.more H2.out).other (by omega) _, ?_, (More.trans HR.out.2.2 H2.out).setCell (Nat.le_succ _) _⟩⟩, by simp [intOf]; omega⟩
        rw [e0, e1, e2]
        first | exact (HR.out.2.1.more H2.out).set0 (x + 1) | exact (HR.out.2.1.more H2.out).set1 (y + 1) | exact (HR.out.2.1.more H2.out).set2 (z + 1)
    · obtain rfl : k = K := by omega
      clear hkK hk
      obtain ⟨g0, g1, g2, r0, r1, r2⟩ := HR.out.2.1.cells
      obtain ⟨f0, f1, f2, s0, s1, s2⟩ := HR.out.1.cells
      go_wp2
      have T3 := ((HR.out.1.set0 (kcnt f n 0 k)).set1 (kcnt f n 1 k)).set2 (kcnt f n 2 k)
      have hM := ((HR.out.2.2.setCell (p := ⟨w.heap.size, 0, none⟩) (Nat.le_refl _) (.int .i64 (kcnt f n 0 k : Nat))).setCell (p := ⟨w.heap.size, 1, none⟩) (Nat.le_refl _) (.int .i64 (kcnt f n 1 k : Nat))).setCell (p := ⟨w.heap.size, 2, none⟩) (Nat.le_refl _) (.int .i64 (kcnt f n 2 k : Nat))
      generalize World.setCell _ _ _ = wF at T3 hM ⊢
      obtain ⟨j0, j1, j2, _⟩ := T3.cells
      refine bodyPost_ret (by simp [results, Tryd.results10, go_sem, j0, j1, j2]; try rfl) rfl ?_
      exact ⟨rfl, hM⟩
theorem shn_kinds (w : World) : Calls Tryd.prog 10 #[.pointer none] w fun e w' => e = .returned (.agg #[.int .i64 0, .int .i64 0, .int .i64 0]) ∧ More w w' := by
  go_enter Tryd.func10, Tryd.ntmps10
  go_wp2
  refine bodyPost_ret (by simp [results, Tryd.results10, go_sem]; try rfl) rfl ?_
  exact ⟨rfl, More.trans (more_alloc _ _) (more_alloc _ _)⟩

end Go.Proofs.YtheieibkbeckkaaDoor
