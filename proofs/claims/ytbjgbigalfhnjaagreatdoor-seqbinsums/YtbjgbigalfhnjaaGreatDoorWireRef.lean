/-
  The document's 10: Num, Int, Text.
-/
import Derived.Test.YtbjgbigalfhnjaaGreatDoorSet13
namespace Go.Proofs.YtbjgbigalfhnjaaGreatDoor
open Go.RowKit

theorem More.cell {w w' : World} (k : More w w') {p : Addr} (hp : p.block < w.heap.size) : w'.cell? p = w.cell? p := by
  unfold World.cell?
  rw [k.block p.block hp]

theorem More.drew (w : World) : More w w.drew := ⟨rfl, rfl, rfl, Nat.le_refl _, fun _ _ => rfl⟩

theorem conv_one (x : Nat) (hx : x < 256) (w : World) (g : Nat) (h : w.cell? ⟨g, 0, none⟩ = some (.int .u8 x)) : (convert 31 9 (.slice (some ⟨g, 0, none⟩) 1 1)).run Tryz.prog w = .ok (.string (bs [UInt8.ofNat x])) w := by
  refine run_convert_bytes_back w 31 9 5 _ 1 [UInt8.ofNat x] Tryz.underlying31 Tryz.underlying5 Tryz.underlying9 (fun j hj => ?_)
  match j, hj with
  | 0, _ =>
    rw [Addr.add_lit, h]
    simp
    omega

set_option maxHeartbeats 800000 in
set_option maxRecDepth 1000000 in
theorem ref_num : ∀ (f v : Nat) (w : World), f ≤ 9 → v < 128 ^ (f + 1) → v < 18446744073709551616 →
    Calls Tryz.prog 29 #[.int .u64 v] w fun e w' => e = .returned (.string (bs (num v))) ∧ More w w' := by
  intro f
  induction f with
  | zero =>
    intro v w _ hv _
    have hv' : v < 128 := by simpa using hv
    rw [num_small hv']
    have hc := fun w g h => conv_one v (by omega) w g h
    clear hv
    go_enter Tryz.func29, Tryz.ntmps29
    go_wp2
    go_ret
    exact ⟨rfl, More.alloc _ _⟩
  | succ f ih =>
    intro v w hf hv hv64
    by_cases h1 : v < 128
    · rw [num_small h1]
      have hc := fun w g h => conv_one v (by omega) w g h
      clear hv ih
      go_enter Tryz.func29, Tryz.ntmps29
      go_wp2
      go_ret
      exact ⟨rfl, More.alloc _ _⟩
    · have hi := fun w => ih (v / 128) w (by omega) (by rw [Nat.div_lt_iff_lt_mul (by decide), ← Nat.pow_succ]; exact hv) (by omega)
      have hlen := (num_len f (v / 128) (by rw [Nat.div_lt_iff_lt_mul (by decide), ← Nat.pow_succ]; exact hv)).1
      have hadd : ∀ w, (Op.stringOp .add (bs [UInt8.ofNat (v % 128 + 128)]) (bs (num (v / 128)))).run Tryz.prog w = .ok (.string (bs (num v))) w := fun w => by
        rw [run_string_add_sum w _ _ (by rw [bs_size, bs_size]; simp; omega), bs_append, num_great h1]
        rfl
      clear ih hv hlen
      obtain ⟨r, hr⟩ : ∃ r, v % 128 = r := ⟨_, rfl⟩
      obtain ⟨q, hq⟩ : ∃ q, v / 128 = q := ⟨_, rfl⟩
      have hr128 : r < 128 := by omega
      have hri : (v : Int) % 128 = (r : Int) := by omega
      have hqi : (v : Int) / 128 = (q : Int) := by omega
      rw [hr, hq] at hadd
      rw [hq] at hi
      have hcx : IntKind.u8.wrap (IntKind.u64.wrap ((v : Int).tmod 128 + 128)) = ((r + 128 : Nat) : Int) := by
        rw [Int.tmod_eq_emod_of_nonneg (by omega), hri, IntKind.wrap_u64, IntKind.wrap_u8]
        omega
      have hc := fun w g h => conv_one (r + 128) (by omega) w g h
      rw [← hcx] at hc
      have hqw : IntKind.u64.wrap (q : Int) = (q : Int) := by rw [IntKind.wrap_u64]; omega
      clear hr hq hri hcx
      generalize UInt8.ofNat (r + 128) = y at *
      generalize num q = z at *
      generalize num v = zz at *
      go_enter Tryz.func29, Tryz.ntmps29
      go_wp2_with fail
      go_region_with (go_at_call 29; refine (hi _).mono ?_; rintro e w1 ⟨rfl, hm⟩; have hk := fun (p : Addr) hp => hm.cell (p := p) hp; have HM := Hid.mk hm; clear hm)
      all_goals
        clear hk
        go_wp2
        go_ret
        first
          | exact ⟨rfl, ((More.alloc w _).trans (More.drew _)).trans HM.out⟩
          | exact ⟨rfl, ((More.drew w).trans HM.out).trans (More.alloc _ _)⟩

theorem ref_num10 (v : Nat) (hv : v < 18446744073709551616) (w : World) : Calls Tryz.prog 29 #[.int .u64 v] w fun e w' => e = .returned (.string (bs (num v))) ∧ More w w' := ref_num 9 v w (by decide) (by omega) hv

theorem ret3 {x y q z : Int} (h1 : x = y) (h2 : q = z) : Ending.returned (.tuple #[.int .u64 x, .int .i64 q, .int .i64 0]) = .returned (.tuple #[.int .u64 y, .int .i64 z, .int .i64 0]) := by rw [h1, h2]
theorem digit_down {l : List UInt8} {X n D M : Nat} (hD : bt l n = D) (h : X * 128 ^ (n + 1) + val l (n + 1) = M) : (X * 128 + D % 128) * 128 ^ n + val l n = M := by
  rw [val, hD, Nat.pow_succ] at h
  rw [← h, Nat.add_mul, Nat.mul_assoc, Nat.mul_comm (128 ^ n) 128]
  omega

set_option maxHeartbeats 1600000 in
set_option maxRecDepth 1000000 in
theorem ref_first (v t er : Nat) (l : List UInt8) (hl : l.length ≤ 100000000) (w : World) (hq : fst l = (v, t, er)) :
    Calls Tryz.prog 64 #[.string (bs l)] w fun e w' => e = .returned (.tuple #[.int .u64 v, .int .i64 t, .int .i64 er]) ∧ w' = w := by
  have hsz : (bs l).size = l.length := bs_size l
  have HQ := Hid.mk hq
  clear hq
  go_enter Tryz.func64, Tryz.ntmps64
  go_wp2
  go_loop [5] (fun i => ∃ k : Nat, k ≤ 10 ∧ k ≤ l.length ∧ i = .int .i64 k ∧ Hid (∀ j, j < k → 128 ≤ bt l j)) (fun i => 10 - (intOf i).toNat)
  case atStart => exact ⟨0, by omega, by omega, rfl, Hid.mk fun j hj => by omega⟩
  case round =>
    obtain ⟨k, hk, hkl, rfl, HK⟩ := hrel
    by_cases hk10 : k = 10
    · subst hk10
      have hf : fst l = (0, 0, 3) := fst_many hkl HK.out
      rw [HQ.out] at hf
      simp at hf
      obtain ⟨rfl, rfl, rfl⟩ := hf
      go_wp2
      go_ret3
      exact ⟨rfl, rfl⟩
    · by_cases hend : k = l.length
      · have hf : fst l = (0, 0, 2) := fst_short (by omega) (fun i hi => HK.out i (by omega))
        rw [HQ.out] at hf
        simp at hf
        obtain ⟨rfl, rfl, rfl⟩ := hf
        subst hend
        go_wp2
        go_ret3
        exact ⟨rfl, rfl⟩
      · have hlt : k < (bs l).size := by omega
        obtain ⟨B, hB⟩ : ∃ B, bt l k = B := ⟨_, rfl⟩
        have hbt : ((bs l)[k]'hlt).toNat = B := by rw [bt_bs, hB]
        have hb256 : B < 256 := by rw [← hB]; exact bt_lt _ _
        have HB := Hid.mk hB
        clear hB
        by_cases h1 : 128 ≤ B
        · go_wp2
          refine ⟨⟨k + 1, by omega, by omega, by go_num, Hid.mk fun j hj => ?_⟩, by simp [intOf]; omega⟩
          by_cases hjk : j = k
          · subst hjk; rw [HB.out]; exact h1
          · exact HK.out j (by omega)
        · have hbad : ((k = 9 ∧ 1 < B) ∨ (0 < k ∧ B = 0)) → fst l = (0, 0, 3) := fun h => fst_bad (n := k) (by omega) (by omega) HK.out (by rw [HB.out]; omega) (by rw [HB.out]; exact h)
          have hgood : ¬ ((k = 9 ∧ 1 < B) ∨ (0 < k ∧ B = 0)) → fst l = (val l (k + 1), k + 1, 0) := fun h => fst_good (n := k) (by omega) (by omega) HK.out (by rw [HB.out]; omega) (by rw [HB.out]; exact h)
          by_cases h2 : (k = 9 ∧ 1 < B) ∨ (0 < k ∧ B = 0)
          · have hf := hbad h2
            rw [HQ.out] at hf
            simp at hf
            obtain ⟨rfl, rfl, rfl⟩ := hf
            clear hbad hgood HB HK HQ
            rcases h2 with ⟨rfl, h3⟩ | ⟨h3, rfl⟩
            · go_wp2
              go_ret3
              exact ⟨rfl, rfl⟩
            · by_cases hk9 : k = 9
              · subst hk9
                go_wp2
                go_ret3
                exact ⟨rfl, rfl⟩
              · have hk1 : ((k : Int) == 9) = false := by simp; omega
                go_wp2
                go_ret3
                exact ⟨rfl, rfl⟩
          · have hf := hgood h2
            rw [HQ.out] at hf
            simp at hf
            obtain ⟨hv, ht, rfl⟩ := hf
            have hv64 : val l (k + 1) < 18446744073709551616 := val_ten l (by omega) (by rw [HB.out]; omega)
            have HV := Hid.mk (And.intro hv ht)
            have HF := Hid.mk hv64
            clear hbad hgood HK HQ hv ht hv64
            rcases (show k = 0 ∨ (k = 9 ∧ B = 1) ∨ (0 < k ∧ k ≠ 9 ∧ B ≠ 0) by omega) with rfl | ⟨rfl, rfl⟩ | ⟨h3, h4, h5⟩
            · go_wp2
              go_loop [6, 7] (fun x i => ∃ (X : Nat) (j : Int), -1 ≤ j ∧ j ≤ 0 ∧ i = .int .i64 j ∧ x = .int .u64 X ∧ Hid (X * 128 ^ (j + 1).toNat + val l (j + 1).toNat = val l (0 + 1))) (fun _ i => ((intOf i) + 1).toNat)
              case atStart => exact ⟨0, 0, by omega, by omega, by go_num, rfl, Hid.mk (by rw [show ((0 : Int) + 1).toNat = 0 + 1 by omega]; omega)⟩
              case round =>
                obtain ⟨X, j, hj, hjk, rfl, rfl, HX⟩ := hrel
                by_cases hj0 : j < 0
                · obtain rfl : j = -1 := by omega
                  have hXv := Hid.mk (show X = val l (0 + 1) by have := HX.out; simpa [val] using this)
                  go_wp2
                  go_ret3
                  exact ⟨ret3 (by rw [hXv.out, HV.out.1]) (by rw [HV.out.2]; omega), rfl⟩
                · obtain ⟨n, rfl⟩ := Int.eq_ofNat_of_zero_le (show 0 ≤ j by omega)
                  have hnl : n < (bs l).size := by omega
                  obtain ⟨D, hD⟩ : ∃ D, bt l n = D := ⟨_, rfl⟩
                  have hbn : ((bs l)[n]'hnl).toNat = D := by rw [bt_bs, hD]
                  have hD256 : D < 256 := by rw [← hD]; exact bt_lt _ _
                  have hx := HX.out
                  rw [show ((n : Int) + 1).toNat = n + 1 by omega] at hx
                  have hst := digit_down hD hx
                  have hpos : 0 < 128 ^ n := Nat.pow_pos (by decide)
                  clear hx
                  have hfit : X * 128 + D % 128 < 18446744073709551616 := Nat.lt_of_le_of_lt (Nat.le_trans (Nat.le_mul_of_pos_right _ hpos) (Nat.le_trans (Nat.le_add_right _ _) (Nat.le_of_eq hst))) HF.out
                  have HS := Hid.mk hst
                  obtain ⟨d, hd⟩ : ∃ d, D % 128 = d := ⟨_, rfl⟩
                  have hdi : (D : Int) % 128 = (d : Int) := by omega
                  rw [hd] at hfit HS
                  have h7 : IntKind.u64.wrap ((X : Int) * 128) = (X : Int) * 128 := by rw [IntKind.wrap_u64]; omega
                  have h8 : IntKind.u64.wrap ((X : Int) * 128 + (d : Int)) = (X : Int) * 128 + (d : Int) := by rw [IntKind.wrap_u64]; omega
                  clear hst hD hd hpos
                  go_wp2
                  refine ⟨⟨X * 128 + d, (n : Int) - 1, by omega, by omega, by go_num, by go_num, Hid.mk ?_⟩, by simp [intOf]⟩
                  rw [show ((n : Int) - 1 + 1).toNat = n by omega]
                  exact HS.out
            · go_wp2
              go_loop [6, 7] (fun x i => ∃ (X : Nat) (j : Int), -1 ≤ j ∧ j ≤ 9 ∧ i = .int .i64 j ∧ x = .int .u64 X ∧ Hid (X * 128 ^ (j + 1).toNat + val l (j + 1).toNat = val l (9 + 1))) (fun _ i => ((intOf i) + 1).toNat)
              case atStart => exact ⟨0, 9, by omega, by omega, by go_num, rfl, Hid.mk (by rw [show ((9 : Int) + 1).toNat = 9 + 1 by omega]; omega)⟩
              case round =>
                obtain ⟨X, j, hj, hjk, rfl, rfl, HX⟩ := hrel
                by_cases hj0 : j < 0
                · obtain rfl : j = -1 := by omega
                  have hXv := Hid.mk (show X = val l (9 + 1) by have := HX.out; simpa [val] using this)
                  go_wp2
                  go_ret3
                  exact ⟨ret3 (by rw [hXv.out, HV.out.1]) (by rw [HV.out.2]; omega), rfl⟩
                · obtain ⟨n, rfl⟩ := Int.eq_ofNat_of_zero_le (show 0 ≤ j by omega)
                  have hnl : n < (bs l).size := by omega
                  obtain ⟨D, hD⟩ : ∃ D, bt l n = D := ⟨_, rfl⟩
                  have hbn : ((bs l)[n]'hnl).toNat = D := by rw [bt_bs, hD]
                  have hD256 : D < 256 := by rw [← hD]; exact bt_lt _ _
                  have hx := HX.out
                  rw [show ((n : Int) + 1).toNat = n + 1 by omega] at hx
                  have hst := digit_down hD hx
                  have hpos : 0 < 128 ^ n := Nat.pow_pos (by decide)
                  clear hx
                  have hfit : X * 128 + D % 128 < 18446744073709551616 := Nat.lt_of_le_of_lt (Nat.le_trans (Nat.le_mul_of_pos_right _ hpos) (Nat.le_trans (Nat.le_add_right _ _) (Nat.le_of_eq hst))) HF.out
                  have HS := Hid.mk hst
                  obtain ⟨d, hd⟩ : ∃ d, D % 128 = d := ⟨_, rfl⟩
                  have hdi : (D : Int) % 128 = (d : Int) := by omega
                  rw [hd] at hfit HS
                  have h7 : IntKind.u64.wrap ((X : Int) * 128) = (X : Int) * 128 := by rw [IntKind.wrap_u64]; omega
                  have h8 : IntKind.u64.wrap ((X : Int) * 128 + (d : Int)) = (X : Int) * 128 + (d : Int) := by rw [IntKind.wrap_u64]; omega
                  clear hst hD hd hpos
                  go_wp2
                  refine ⟨⟨X * 128 + d, (n : Int) - 1, by omega, by omega, by go_num, by go_num, Hid.mk ?_⟩, by simp [intOf]⟩
                  rw [show ((n : Int) - 1 + 1).toNat = n by omega]
                  exact HS.out
            · have hk1 : ((k : Int) == 9) = false := by simp; omega
              have hB1 : ((B : Int) == 0) = false := by simp; omega
              go_wp2
              go_loop [6, 7] (fun x i => ∃ (X : Nat) (j : Int), -1 ≤ j ∧ j ≤ k ∧ i = .int .i64 j ∧ x = .int .u64 X ∧ Hid (X * 128 ^ (j + 1).toNat + val l (j + 1).toNat = val l (k + 1))) (fun _ i => ((intOf i) + 1).toNat)
              case atStart => exact ⟨0, k, by omega, by omega, by go_num, rfl, Hid.mk (by rw [show ((k : Int) + 1).toNat = k + 1 by omega]; omega)⟩
              case round =>
                obtain ⟨X, j, hj, hjk, rfl, rfl, HX⟩ := hrel
                by_cases hj0 : j < 0
                · obtain rfl : j = -1 := by omega
                  have hXv := Hid.mk (show X = val l (k + 1) by have := HX.out; simpa [val] using this)
                  go_wp2
                  go_ret3
                  exact ⟨ret3 (by rw [hXv.out, HV.out.1]) (by rw [HV.out.2]; omega), rfl⟩
                · obtain ⟨n, rfl⟩ := Int.eq_ofNat_of_zero_le (show 0 ≤ j by omega)
                  have hnl : n < (bs l).size := by omega
                  obtain ⟨D, hD⟩ : ∃ D, bt l n = D := ⟨_, rfl⟩
                  have hbn : ((bs l)[n]'hnl).toNat = D := by rw [bt_bs, hD]
                  have hD256 : D < 256 := by rw [← hD]; exact bt_lt _ _
                  have hx := HX.out
                  rw [show ((n : Int) + 1).toNat = n + 1 by omega] at hx
                  have hst := digit_down hD hx
                  have hpos : 0 < 128 ^ n := Nat.pow_pos (by decide)
                  clear hx
                  have hfit : X * 128 + D % 128 < 18446744073709551616 := Nat.lt_of_le_of_lt (Nat.le_trans (Nat.le_mul_of_pos_right _ hpos) (Nat.le_trans (Nat.le_add_right _ _) (Nat.le_of_eq hst))) HF.out
                  have HS := Hid.mk hst
                  obtain ⟨d, hd⟩ : ∃ d, D % 128 = d := ⟨_, rfl⟩
                  have hdi : (D : Int) % 128 = (d : Int) := by omega
                  rw [hd] at hfit HS
                  have h7 : IntKind.u64.wrap ((X : Int) * 128) = (X : Int) * 128 := by rw [IntKind.wrap_u64]; omega
                  have h8 : IntKind.u64.wrap ((X : Int) * 128 + (d : Int)) = (X : Int) * 128 + (d : Int) := by rw [IntKind.wrap_u64]; omega
                  clear hst hD hd hpos
                  go_wp2
                  refine ⟨⟨X * 128 + d, (n : Int) - 1, by omega, by omega, by go_num, by go_num, Hid.mk ?_⟩, by simp [intOf]⟩
                  rw [show ((n : Int) - 1 + 1).toNat = n by omega]
                  exact HS.out

end Go.Proofs.YtbjgbigalfhnjaaGreatDoor
