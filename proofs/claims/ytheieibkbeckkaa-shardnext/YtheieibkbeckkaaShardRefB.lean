/-
  The document's shard: Kinds, Size.
-/
import Derived.Test.YtheieibkbeckkaaShardRef
namespace Go.Proofs.Ytheieibkbeckkaa
open Go.RowKit

/-- A part of a list that came in. -/
theorem part_rd {w : World} {bl o n cap : Nat} {f : Nat → Nat} (h : ZRd w (.slice (some ⟨bl, o, none⟩) n cap) n (fun j => (f j : Int))) (k : Nat) (hk : k < prts n) :
    ZRd w (.slice (some ⟨bl, o + 32 * k, none⟩) (prtn n k) (cap - 32 * k)) (prtn n k) (fun j => (prt f k j : Int)) := by
  have hkn := prts_lt hk
  exact h.cutAt (32 * k) (prtn n k) (by unfold prtn; omega) _

set_option maxHeartbeats 1600000 in
set_option maxRecDepth 1000000 in
theorem refs_kinds (ao : Option Addr) (n cap : Nat) (f : Nat → Nat) (w : World) (h : ZRd w (.slice ao n cap) n (fun j => (f j : Int))) (hC : Climbs f n) (hn : n ≤ 1000) (hcap : n ≤ cap) :
    Calls Try.prog 16 #[.slice ao n cap] w fun e w' => e = .returned (.agg #[.int .i64 (kcnt f n 0 (prts n) : Nat), .int .i64 (kcnt f n 1 (prts n) : Nat), .int .i64 (kcnt f n 2 (prts n) : Nat)]) ∧ More w w' := by
  have hpr : prts n ≤ 32 := by unfold prts; omega
  have hpa := fun w' (hm : More w w') => refs_parts _ n _ w' (h.more hm) hn
  have HH := Hid.mk (And.intro h hC)
  obtain ⟨K, hK⟩ : ∃ K, prts n = K := ⟨_, rfl⟩
  rw [hK] at hpa hpr ⊢
  have HK := Hid.mk hK
  clear h hC hK
  go_enter Try.func16, Try.ntmps16
  go_wp2
  go_loopw [4, 5] (fun i p wr => ∃ k : Nat, k ≤ K ∧ i = .int .i64 k ∧ Hid (Three wr w.heap.size 0 0 0 ∧ Three wr (w.heap.size + 1) (kcnt f n 0 k) (kcnt f n 1 k) (kcnt f n 2 k) ∧ More w wr)) (fun i _ _ => K - (intOf i).toNat)
  case atStart =>
    exact ⟨0, Nat.zero_le _, rfl, Hid.mk ⟨(three_new w).1, (three_new w).2, More.trans (more_alloc _ _) (more_alloc _ _)⟩⟩
  case round =>
    obtain ⟨k, hk, rfl, HR⟩ := hrel
    have hpa' := hpa wr HR.out.2.2
    by_cases hkK : k < K
    · have hkp : k < prts n := by rw [HK.out]; exact hkK
      obtain ⟨bl, o, rfl, _⟩ := HH.out.1.cell (w' := wr) 0 (by have := prts_lt hkp; omega)
      have hpt := refs_part bl o n cap k wr hn hcap hkp
      have hkd := refs_kind _ (prtn n k) (prt f k) wr (part_rd (HH.out.1.more HR.out.2.2) k hkp) (prt_climbs HH.out.2 k).top (by have := prtn_le n k; omega)
      have hx := kcnt_le f n 0 k
      have hy := kcnt_le f n 1 k
      have hz := kcnt_le f n 2 k
      have hcs := kind_cases (prt f k) (prtn n k)
      obtain ⟨t, ht⟩ : ∃ t, kind (prt f k) (prtn n k) = t := ⟨_, rfl⟩
      have e0 : kcnt f n 0 (k + 1) = kcnt f n 0 k + if t = 0 then 1 else 0 := by rw [kcnt, ht]
      have e1 : kcnt f n 1 (k + 1) = kcnt f n 1 k + if t = 1 then 1 else 0 := by rw [kcnt, ht]
      have e2 : kcnt f n 2 (k + 1) = kcnt f n 2 k + if t = 2 then 1 else 0 := by rw [kcnt, ht]
      rw [ht] at hkd
      have hT : t = 0 ∨ t = 1 ∨ t = 2 := by rw [ht] at hcs; omega
      generalize kcnt f n 0 k = x at *
      generalize kcnt f n 1 k = y at *
      generalize kcnt f n 2 k = z at *
      generalize prtn n k = M at *
      generalize o + 32 * k = o' at *
      generalize cap - 32 * k = c' at *
      have HE := Hid.mk (And.intro e0 (And.intro e1 e2))
      clear e0 e1 e2 ht hcs hpa hkp hcap
      rcases hT with rfl | rfl | rfl
      all_goals
        go_wp2_with (first
          | (go_at_call 23; refine hpa'.mono ?_; rintro e w' ⟨rfl, hw⟩; subst w'; clear hpa')
          | (go_at_call 25; refine hpt.mono ?_; rintro e w' ⟨rfl, hw⟩; subst w'; clear hpt)
          | (go_at_call 24; refine hkd.mono ?_; rintro e w2 ⟨rfl, q, hw⟩; have hm : More wr w2 := (by rw [hw]; exact More.drewN _ _); obtain ⟨g0, g1, g2, r0, r1, r2⟩ := (HR.out.2.1.more hm).cells; have H2 := Hid.mk hm; clear hm hkd hw))
        have e0 := HE.out.1
        have e1 := HE.out.2.1
        have e2 := HE.out.2.2
        simp at e0 e1 e2
        refine ⟨⟨k + 1, by omega, by go_num, Hid.mk ⟨(HR.out.1.more H2.out).other (by omega) _, ?_, (More.trans HR.out.2.2 H2.out).setCell (Nat.le_succ _) _⟩⟩, by simp [intOf]; omega⟩
        rw [e0, e1, e2]
        first | exact (HR.out.2.1.more H2.out).set0 (x + 1) | exact (HR.out.2.1.more H2.out).set1 (y + 1) | exact (HR.out.2.1.more H2.out).set2 (z + 1)
    · obtain rfl : k = K := by omega
      clear hkK hk hpa
      obtain ⟨g0, g1, g2, r0, r1, r2⟩ := HR.out.2.1.cells
      obtain ⟨f0, f1, f2, s0, s1, s2⟩ := HR.out.1.cells
      go_wp2_with (go_at_call 23; refine hpa'.mono ?_; rintro e w' ⟨rfl, hw⟩; subst w'; clear hpa')
      have T3 := ((HR.out.1.set0 (kcnt f n 0 k)).set1 (kcnt f n 1 k)).set2 (kcnt f n 2 k)
      have hM := ((HR.out.2.2.setCell (p := ⟨w.heap.size, 0, none⟩) (Nat.le_refl _) (.int .i64 (kcnt f n 0 k : Nat))).setCell (p := ⟨w.heap.size, 1, none⟩) (Nat.le_refl _) (.int .i64 (kcnt f n 1 k : Nat))).setCell (p := ⟨w.heap.size, 2, none⟩) (Nat.le_refl _) (.int .i64 (kcnt f n 2 k : Nat))
      generalize World.setCell _ _ _ = wF at T3 hM ⊢
      obtain ⟨j0, j1, j2, _⟩ := T3.cells
      refine bodyPost_ret (by simp [results, Try.results16, go_sem, j0, j1, j2]; try rfl) rfl ?_
      exact ⟨rfl, hM⟩

end Go.Proofs.Ytheieibkbeckkaa
