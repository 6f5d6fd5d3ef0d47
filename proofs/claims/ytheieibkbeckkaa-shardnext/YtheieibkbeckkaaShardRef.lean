/-
  The document's shard: Parts, part, Kind.
-/
import Derived.Test.YtheieibkbeckkaaShardG
import Derived.Test.YtheieibkbeckkaaShardF
namespace Go.Proofs.Ytheieibkbeckkaa
open Go.RowKit

theorem refs_parts (v : Value) (n : Nat) (g : Nat → Int) (w : World) (h : ZRd w v n g) (hn : n ≤ 1000) :
    Calls Try.prog 23 #[v] w fun e w' => e = .returned (.int .i64 (prts n : Nat)) ∧ w' = w := by
  obtain ⟨ao, cap, rfl⟩ := h.shape
  obtain ⟨M, hM⟩ : ∃ M, n + 31 = M := ⟨_, rfl⟩
  have h1 : (n : Int) + 31 = (M : Int) := by omega
  have h2 : IntKind.i64.wrap (M : Int) = (M : Int) := by rw [IntKind.wrap_i64]; omega
  have h3 : (M : Int) / 32 = (prts n : Nat) := by unfold prts; omega
  have h4 : IntKind.i64.wrap (prts n : Nat) = ((prts n : Nat) : Int) := by rw [IntKind.wrap_i64]; unfold prts; omega
  clear h hM
  generalize prts n = K at *
  go_enter Try.func23, Try.ntmps23
  go_wp2
  go_ret
  exact ⟨rfl, rfl⟩

theorem refs_part (bl o n cap k : Nat) (w : World) (hn : n ≤ 1000) (hcap : n ≤ cap) (hk : k < prts n) :
    Calls Try.prog 25 #[.slice (some ⟨bl, o, none⟩) n cap, .int .i64 k] w fun e w' => e = .returned (.slice (some ⟨bl, o + 32 * k, none⟩) (prtn n k) (cap - 32 * k)) ∧ w' = w := by
  have hkn := prts_lt hk
  obtain ⟨a, ha⟩ : ∃ a, 32 * k = a := ⟨_, rfl⟩
  obtain ⟨M, hM⟩ : ∃ M, prtn n k = M := ⟨_, rfl⟩
  obtain ⟨E, hE⟩ : ∃ E, a + M = E := ⟨_, rfl⟩
  have hmul : 32 * (k : Int) = (a : Int) := by omega
  have hwa : IntKind.i64.wrap (a : Int) = (a : Int) := by rw [IntKind.wrap_i64]; omega
  have hmin : min ((a : Int) + 32) (n : Int) = (E : Int) := by unfold prtn at hM; omega
  have hwr : IntKind.i64.wrap ((a : Int) + 32) = (a : Int) + 32 := by rw [IntKind.wrap_i64]; omega
  have hEn : E ≤ n := by unfold prtn at hM; omega
  have hEM : E - a = M := by omega
  have haE : a ≤ E := by omega
  have hEc : E ≤ cap := by omega
  have hca : ¬ cap = a := by omega
  rw [ha, hM]
  clear ha hM hE hk
  go_enter Try.func25, Try.ntmps25
  go_wp2
  go_ret
  exact ⟨rfl, rfl⟩

theorem drew_again (w : World) (q n : Nat) : ∃ r, (w.drewN q).drewN n = w.drewN r := ⟨q + n, by simp⟩

theorem isRun_succ (g : Nat → Nat) (k : Nat) : IsRun g (k + 1) ↔ IsRun g k ∧ g k = g 0 + k := by
  constructor
  · exact fun h => ⟨fun j hj => h j (by omega), h k (by omega)⟩
  · rintro ⟨h, h1⟩ j hj
    rcases Nat.lt_or_ge j k with a | a
    · exact h j a
    · obtain rfl : j = k := by omega
      exact h1
theorem isSame_succ (g : Nat → Nat) (k : Nat) : IsSame g (k + 1) ↔ IsSame g k ∧ g k = g 0 := by
  constructor
  · exact fun h => ⟨fun j hj => h j (by omega), h k (by omega)⟩
  · rintro ⟨h, h1⟩ j hj
    rcases Nat.lt_or_ge j k with a | a
    · exact h j a
    · obtain rfl : j = k := by omega
      exact h1

set_option maxHeartbeats 1600000 in
set_option maxRecDepth 1000000 in
theorem refs_kind (v : Value) (m : Nat) (g : Nat → Nat) (w : World) (h : ZRd w v m (fun j => (g j : Int))) (hg : ∀ j, j < m → g j ≤ 1099511627776) (hm : m ≤ 1000) :
    Calls Try.prog 24 #[v] w fun e w' => e = .returned (.int .i64 (kind g m : Nat)) ∧ ∃ q, w' = w.drewN q := by
  obtain ⟨ao, cap, rfl⟩ := h.shape
  have HH := Hid.mk (And.intro h hg)
  obtain ⟨t, ht⟩ : ∃ t, kind g m = t := ⟨_, rfl⟩
  rw [ht]
  have HT := Hid.mk ht
  clear h hg ht
  go_enter Try.func24, Try.ntmps24
  go_wp2
  go_loopw [3, 4, 5] (fun r l i wr => ∃ (k : Nat) (R L : Bool), k ≤ m ∧ r = .bool R ∧ l = .bool L ∧ i = .int .i64 k ∧ Hid ((R = true ↔ IsRun g k) ∧ (L = true ↔ IsSame g k) ∧ ∃ q, wr = w.drewN q)) (fun _ _ i _ => m - (intOf i).toNat)
  case atStart => exact ⟨0, true, true, Nat.zero_le _, rfl, rfl, rfl, Hid.mk ⟨by simp [IsRun], by simp [IsSame], 0, rfl⟩⟩
  case round =>
    obtain ⟨k, R, L, hk, rfl, rfl, rfl, HR⟩ := hrel
    have hmore : Hid (More w wr) := Hid.mk (by obtain ⟨q, hq⟩ := HR.out.2.2; rw [hq]; exact More.drewN w q)
    by_cases hkK : k < m
    · obtain ⟨bl, o, rfl, hc⟩ := HH.out.1.cell (w' := wr) k hkK
      have hck := hc hmore.out
      clear hc
      obtain ⟨b', o', he, hc⟩ := HH.out.1.cell (w' := wr) 0 (by omega)
      simp at he
      obtain ⟨rfl, rfl⟩ := he
      have hc0 := hc hmore.out
      rw [Nat.add_zero] at hc0
      clear hc
      have hx1 := HH.out.2 k hkK
      have hy1 := HH.out.2 0 (by omega)
      obtain ⟨x, hx⟩ : ∃ x, g k = x := ⟨_, rfl⟩
      obtain ⟨y, hy⟩ : ∃ y, g 0 = y := ⟨_, rfl⟩
      rw [hx] at hck hx1
      rw [hy] at hc0 hy1
      obtain ⟨D, hD⟩ : ∃ D : Int, (x : Int) - (y : Int) = D := ⟨_, rfl⟩
      have hwD : IntKind.i64.wrap D = D := by rw [IntKind.wrap_i64]; omega
      have hR1 : Hid ((R = true ∧ D = (k : Int)) ↔ IsRun g (k + 1)) := Hid.mk (by rw [isRun_succ, HR.out.1, hx, hy]; constructor <;> (rintro ⟨a, b⟩; exact ⟨a, by omega⟩))
      have hL1 : Hid ((L = true ∧ x = y) ↔ IsSame g (k + 1)) := Hid.mk (by rw [isSame_succ, HR.out.2.1, hx, hy])
      clear hx hy
      cases R <;> cases L
      all_goals
        go_wp2
        go_quiet (fail)
        go_wp2
        go_quiet (fail)
        go_wp2
        obtain ⟨q, hq⟩ := HR.out.2.2
        refine ⟨⟨k + 1, _, _, by omega, rfl, rfl, by go_num, Hid.mk ⟨?_, ?_, ?_⟩⟩, by simp [intOf]; omega⟩
        · have := hR1.out; simpa using this
        · have := hL1.out; simpa [Int.natCast_inj, Int.ofNat_inj] using this
        · rw [hq]; exact drew_again _ _ _
    · obtain rfl : k = m := by omega
      clear hkK hk
      have hkd : t = if R = true then 0 else if L = true then 1 else 2 := by
        rw [← HT.out]
        by_cases h1 : R = true
        · rw [if_pos h1]; exact kind_run (HR.out.1.1 h1)
        · rw [if_neg h1]
          by_cases h2 : L = true
          · rw [if_pos h2]; exact kind_same (fun h => h1 (HR.out.1.2 h)) (HR.out.2.1.1 h2)
          · rw [if_neg h2]; exact kind_other (fun h => h1 (HR.out.1.2 h)) (fun h => h2 (HR.out.2.1.2 h))
      cases R <;> cases L
      all_goals
        simp at hkd
        go_wp2
        go_ret
        exact ⟨by first | rfl | (rw [hkd]; rfl), HR.out.2.2⟩

end Go.Proofs.Ytheieibkbeckkaa
