/-
  wire's Reader: number, bounded, cut, the steps that are handed in.
  wire's Reader: bounded, cut, unfolded, and the steps that are handed in.
-/
import Derived.Test.YtbjgbigalfhnjaaGreatDoorSet13
namespace Go.Proofs.YtbjgbigalfhnjaaGreatDoor
open Go.RowKit

theorem or_add {X d k : Nat} (hX : X < 2 ^ k) : X ||| d * 2 ^ k = X + d * 2 ^ k := by
  rw [Nat.or_comm, Nat.mul_comm d, ← Nat.two_pow_add_eq_or_of_lt hX, Nat.add_comm]

/-- A digit more. -/
theorem digit_or {X d k : Nat} (hX : X < 128 ^ k) (hk : k ≤ 9) (hd : d < 128) (h9 : k = 9 → d ≤ 1) :
    bits .or .u64 (X : Int) (IntKind.u64.wrap ((d : Int) * 2 ^ (k * 7))) = ((X + d * 128 ^ k : Nat) : Int) := by
  have hp : (128 : Nat) ^ k = 2 ^ (k * 7) := by rw [show (128 : Nat) = 2 ^ 7 by decide, ← Nat.pow_mul, Nat.mul_comm]
  rw [hp] at hX ⊢
  have h1 : d * 2 ^ (k * 7) < 18446744073709551616 := by
    by_cases h : k = 9
    · subst h
      have := h9 rfl
      omega
    · have h2 : (2 : Nat) ^ (k * 7) ≤ 2 ^ 56 := Nat.pow_le_pow_right (by decide) (by omega)
      have h3 : d * 2 ^ (k * 7) ≤ 127 * 2 ^ 56 := Nat.mul_le_mul (by omega) h2
      omega
  have h2 : X < 18446744073709551616 := by
    have : (2 : Nat) ^ (k * 7) ≤ 2 ^ 63 := Nat.pow_le_pow_right (by decide) (by omega)
    omega
  have e : IntKind.u64.wrap ((d : Int) * 2 ^ (k * 7)) = ((d * 2 ^ (k * 7) : Nat) : Int) := by
    rw [IntKind.wrap_u64, show (d : Int) * 2 ^ (k * 7) = ((d * 2 ^ (k * 7) : Nat) : Int) by rw [Int.natCast_mul, Int.natCast_pow]; rfl]
    omega
  rw [e, u64_or_nat _ _ h2 h1, or_add hX]

theorem digit_nat {X : Nat} (d k : Nat) (hX : X < 18446744073709551616) : ∃ Y : Nat, bits .or .u64 (X : Int) (IntKind.u64.wrap ((d : Int) * 2 ^ (k * 7))) = (Y : Int) := by
  have e : IntKind.u64.wrap ((d : Int) * 2 ^ (k * 7)) = ((d * 2 ^ (k * 7) % 18446744073709551616 : Nat) : Int) := by
    rw [IntKind.wrap_u64, show (d : Int) * 2 ^ (k * 7) = ((d * 2 ^ (k * 7) : Nat) : Int) by rw [Int.natCast_mul, Int.natCast_pow]; rfl]
    omega
  rw [e, u64_or_nat _ _ hX (Nat.mod_lt _ (by decide))]
  exact ⟨_, rfl⟩

/-- What a step tells: behind which byte it ends, where nothing is wrong. -/
def zat (a t er : Nat) : Nat := if er = 0 then a + t else 0
theorem zat_ok (a t : Nat) : zat a t 0 = a + t := rfl
theorem zat_no (a t : Nat) {er : Nat} (h : er ≠ 0) : zat a t er = 0 := by unfold zat; rw [if_neg h]
abbrev Told (v : Value) (z er : Nat) (e : Ending) : Prop := e = .returned (.tuple #[v, .int .i64 z, .int .i64 er])
theorem told_is {k : IntKind} {x y : Int} {z z' er : Nat} {q : Int} (h1 : x = y) (h2 : q = z) (h3 : z = z') : Ending.returned (.tuple #[.int k x, .int .i64 q, .int .i64 er]) = .returned (.tuple #[.int k y, .int .i64 z', .int .i64 er]) := by rw [h1, h2, h3]

set_option maxHeartbeats 1600000 in
set_option maxRecDepth 1000000 in
theorem rd_number (base b a v t er E : Nat) (l : List UInt8) (w : World) (h : RdAt w base b l a E) (hq : fst (l.drop a) = (v, t, er)) :
    Calls Tryz.prog 94 #[.pointer (some ⟨b, 0, none⟩), .int .i64 a] w fun e w' => Told (.int .u64 v) (zat a t er) er e ∧ w' = w := by
  obtain ⟨c0, _, _, _⟩ := wcells3 h.mem
  have hle := h.le
  have hlen := h.len
  have hsz : (bs l).size = l.length := bs_size l
  have HQ := Hid.mk hq
  have HD := Hid.mk (List.length_drop (i := a) (l := l))
  clear h hq
  go_enter Tryz.func94, Tryz.ntmps94
  go_wp2
  go_loop [7, 10] (fun x i => ∃ k X : Nat, k ≤ 10 ∧ a + k ≤ l.length ∧ i = .int .i64 k ∧ x = .int .u64 X ∧ Hid ((∀ j, j < k → 128 ≤ bt (l.drop a) j) ∧ (k ≤ 9 → X = val (l.drop a) k))) (fun _ i => 10 - (intOf i).toNat)
  case atStart => exact ⟨0, 0, by omega, by omega, rfl, rfl, Hid.mk ⟨fun j hj => by omega, fun _ => rfl⟩⟩
  case round =>
    obtain ⟨k, X, hk, hak, rfl, rfl, HK⟩ := hrel
    by_cases hk10 : k = 10
    · subst hk10
      have hf : fst (l.drop a) = (0, 0, 3) := fst_many (by rw [HD.out]; omega) HK.out.1
      rw [HQ.out] at hf
      simp at hf
      obtain ⟨rfl, rfl, rfl⟩ := hf
      go_wp2
      go_ret3
      exact ⟨rfl, rfl⟩
    · by_cases hend : a + k = l.length
      · have hf : fst (l.drop a) = (0, 0, 2) := fst_short (by rw [HD.out]; omega) (fun i hi => HK.out.1 i (by rw [HD.out] at hi; omega))
        rw [HQ.out] at hf
        simp at hf
        obtain ⟨rfl, rfl, rfl⟩ := hf
        have hend' : (a : Int) + (k : Int) = (l.length : Int) := by omega
        go_wp2
        go_ret3
        exact ⟨rfl, rfl⟩
      · have hX := HK.out.2 (by omega)
        have hlt : a + k < (bs l).size := by omega
        obtain ⟨B, hB⟩ : ∃ B, bt (l.drop a) k = B := ⟨_, rfl⟩
        have hbt : ((bs l)[a + k]'hlt).toNat = B := by rw [bt_bs, ← bt_drop, hB]
        have hb256 : B < 256 := by rw [← hB]; exact bt_lt _ _
        have hne : ¬ ((a : Int) + (k : Int) = (l.length : Int)) := by omega
        have hX64 : X < 18446744073709551616 := by
          rw [hX]
          have h1 := val_lt (l.drop a) k
          have h2 : (128 : Nat) ^ k ≤ 128 ^ 9 := Nat.pow_le_pow_right (by decide) (by omega)
          omega
        have HX := Hid.mk hX
        have HB := Hid.mk hB
        clear hX hB
        by_cases h1 : 128 ≤ B
        · obtain ⟨Y, hY⟩ := digit_nat (X := X) (B % 128) k hX64
          have HY := Hid.mk hY
          have hmod : ((B % 128 : Nat) : Int) = (B : Int) % 128 := by omega
          rw [hmod] at hY
          go_wp2
          refine ⟨⟨k + 1, Y, by omega, by omega, by go_num, rfl, Hid.mk ⟨fun j hj => ?_, fun hk9 => ?_⟩⟩, by simp [intOf]; omega⟩
          · by_cases hjk : j = k
            · subst hjk; rw [HB.out]; exact h1
            · exact HK.out.1 j (by omega)
          · have h2 := HY.out
            rw [digit_or (by rw [HX.out]; exact val_lt _ _) (by omega) (by omega) (by omega)] at h2
            rw [val, HB.out, ← HX.out]
            omega
        · have hBm : (B : Int) % 128 = (B : Int) := by omega
          have hbad : ((k = 9 ∧ 1 < B) ∨ (0 < k ∧ B = 0)) → fst (l.drop a) = (0, 0, 3) := fun h => fst_bad (n := k) (by omega) (by rw [HD.out]; omega) HK.out.1 (by rw [HB.out]; omega) (by rw [HB.out]; exact h)
          have hgood : ¬ ((k = 9 ∧ 1 < B) ∨ (0 < k ∧ B = 0)) → fst (l.drop a) = (X + B * 128 ^ k, k + 1, 0) := fun h => by
            rw [fst_good (n := k) (by omega) (by rw [HD.out]; omega) HK.out.1 (by rw [HB.out]; omega) (by rw [HB.out]; exact h), val, HB.out, ← HX.out, Nat.mod_eq_of_lt (show B < 128 by omega)]
          have hdo := fun h9 => digit_or (X := X) (d := B) (k := k) (by rw [HX.out]; exact val_lt _ _) (by omega) (by omega) h9
          by_cases h2 : (k = 9 ∧ 1 < B) ∨ (0 < k ∧ B = 0)
          · have hf := hbad h2
            rw [HQ.out] at hf
            simp at hf
            obtain ⟨rfl, rfl, rfl⟩ := hf
            clear hbad hgood hdo HX HB HK HQ
            rcases h2 with ⟨rfl, h3⟩ | ⟨h3, rfl⟩
            · go_wp2
              go_ret3
              exact ⟨rfl, rfl⟩
            · go_wp2
              go_ret3
              exact ⟨rfl, rfl⟩
          · have hf := hgood h2
            rw [HQ.out] at hf
            simp at hf
            obtain ⟨hv, ht, rfl⟩ := hf
            have hd := hdo (by omega)
            rw [← hv] at hd
            have HV := Hid.mk (And.intro hd ht)
            clear hbad hgood hdo HX HB HK HQ hv ht hd
            by_cases hk0 : k = 0
            · subst hk0
              have hbt0 : ((bs l)[a]'(by omega)).toNat = B := hbt
              have e0 : IntKind.u64.wrap ((B : Int) * 2 ^ (0 * 7)) = (B : Int) := by rw [IntKind.wrap_u64]; omega
              have hv := HV.out.1
              rw [e0] at hv
              have HW := Hid.mk hv
              clear hv e0
              go_wp2
              go_ret3
              exact ⟨told_is HW.out (by rw [HV.out.2]; omega) (zat_ok _ _).symm, rfl⟩
            · by_cases hk9 : k = 9
              · subst hk9
                obtain rfl : B = 1 := by omega
                go_wp2
                go_ret3
                exact ⟨told_is (by simpa [IntKind.wrap_u64] using HV.out.1) (by rw [HV.out.2]; omega) (zat_ok _ _).symm, rfl⟩
              · have hB0 : B ≠ 0 := by omega
                have hB1 : ((B : Int) == 0) = false := by simp; omega
                have hk1 : ((k : Int) == 9) = false := by simp; omega
                have hk2 : (0 : Int) < (k : Int) := by omega
                go_wp2
                go_ret3
                exact ⟨told_is (by simpa using HV.out.1) (by rw [HV.out.2]; omega) (zat_ok _ _).symm, rfl⟩

end Go.Proofs.YtbjgbigalfhnjaaGreatDoor

namespace Go.Proofs.YtbjgbigalfhnjaaGreatDoor
open Go.RowKit

theorem rdI_ok {l : List UInt8} {v : Int} {t er : Nat} (h : rdI l = (v, t, er)) : t ≤ l.length ∧ (er ≠ 0 → v = 0 ∧ t = 0) := by
  obtain ⟨h1, h2, h3, h4, h5⟩ := fst_ok (show fst l = ((fst l).1, (fst l).2.1, (fst l).2.2) from rfl)
  unfold rdI at h
  simp at h
  obtain ⟨rfl, rfl, rfl⟩ := h
  refine ⟨h1, fun he => ?_⟩
  obtain ⟨e1, e2⟩ := h3 he
  rw [e1, e2]
  exact ⟨rfl, rfl⟩
theorem rdT_ok {l x : List UInt8} {N : Int} {t er : Nat} (h : rdT l N = (x, t, er)) : t ≤ l.length ∧ (er ≠ 0 → x = [] ∧ t = 0) := by
  obtain ⟨h1, h2, h3, h4, h5⟩ := bnd_ok (show bnd l N 5 = ((bnd l N 5).1, (bnd l N 5).2.1, (bnd l N 5).2.2) from rfl)
  unfold rdT at h
  split at h
  · simp at h
    obtain ⟨rfl, rfl, rfl⟩ := h
    simp
  · obtain ⟨k1, k2, _⟩ := cutR_ok h1 h
    exact ⟨k1, k2⟩
theorem rdR_ok {l x : List UInt8} {N : Int} {t er : Nat} (h : rdR l N = (x, t, er)) : t ≤ l.length ∧ (er ≠ 0 → x = [] ∧ t = 0) := by
  unfold rdR at h
  split at h
  · simp at h
    obtain ⟨rfl, rfl, rfl⟩ := h
    simp
  · obtain ⟨k1, k2, _⟩ := cutR_ok (Nat.zero_le _) h
    exact ⟨k1, k2⟩
/-- What is cut, told from the whole. -/
theorem cut_rel {l x : List UInt8} {a t n t' er : Nat} (h : cutR (l.drop a) t n = (x, t', er)) : cutR l (a + t) n = (x, zat a t' er, er) := by
  unfold cutR at h ⊢
  rw [List.length_drop, List.drop_drop] at h
  by_cases h1 : l.length - a - t < n
  · rw [if_pos h1] at h
    rw [if_pos (by omega)]
    simp at h
    obtain ⟨rfl, rfl, rfl⟩ := h
    rfl
  · rw [if_neg h1] at h
    rw [if_neg (by omega)]
    simp at h
    obtain ⟨rfl, rfl, rfl⟩ := h
    rw [zat_ok]
    simp
    omega

theorem and_one (v : Nat) (h : v < 18446744073709551616) : bits .and .u64 (v : Int) 1 = ((v % 2 : Nat) : Int) := by
  have := bits_and_u64_nat v 1 h (by decide)
  rw [Nat.and_one_is_mod] at this
  exact this

set_option maxRecDepth 1000000 in
theorem rd_bounded (base b a v t er E ab : Nat) (N : Int) (l : List UInt8) (w : World) (h : RdAt w base b l a E) (hab : ab ≠ 0) (hN : -9223372036854775808 ≤ N ∧ N ≤ 9223372036854775807) (hq : bnd (l.drop a) N ab = (v, t, er)) :
    Calls Tryz.prog 82 #[.pointer (some ⟨b, 0, none⟩), .int .i64 a, .int .i64 N, .int .i64 ab] w fun e w' => Told (.int .i64 v) (zat a t er) er e ∧ w' = w := by
  obtain ⟨v0, t0, er0, h0⟩ : ∃ v0 t0 er0, fst (l.drop a) = (v0, t0, er0) := ⟨_, _, _, rfl⟩
  have hn := rd_number base b a v0 t0 er0 E l w h h0
  obtain ⟨_, hv64, _, _, _⟩ := fst_ok h0
  unfold bnd at hq
  rw [h0] at hq
  simp only at hq
  clear h h0
  by_cases e0 : er0 = 0
  · subst e0
    rw [if_neg (by simp)] at hq
    rw [zat_ok] at hn
    by_cases hN0 : N < 0
    · rw [if_pos (.inl hN0)] at hq
      simp at hq
      obtain ⟨rfl, rfl, rfl⟩ := hq
      rw [zat_no _ _ hab]
      go_enter Tryz.func82, Tryz.ntmps82
      go_wp2_with (go_at_call 94; refine hn.mono ?_; rintro e w' ⟨rfl, hw'⟩; subst w')
      go_ret3
      exact ⟨rfl, rfl⟩
    · by_cases hNv : N < (v0 : Int)
      · rw [if_pos (.inr hNv)] at hq
        simp at hq
        obtain ⟨rfl, rfl, rfl⟩ := hq
        rw [zat_no _ _ hab]
        go_enter Tryz.func82, Tryz.ntmps82
        go_wp2_with (go_at_call 94; refine hn.mono ?_; rintro e w' ⟨rfl, hw'⟩; subst w')
        go_ret3
        exact ⟨rfl, rfl⟩
      · rw [if_neg (by omega)] at hq
        simp at hq
        obtain ⟨rfl, rfl, rfl⟩ := hq
        rw [zat_ok]
        go_enter Tryz.func82, Tryz.ntmps82
        go_wp2_with (go_at_call 94; refine hn.mono ?_; rintro e w' ⟨rfl, hw'⟩; subst w')
        go_ret3
        exact ⟨rfl, rfl⟩
  · rw [if_pos e0] at hq
    simp at hq
    obtain ⟨rfl, rfl, rfl⟩ := hq
    rw [zat_no _ _ e0] at hn ⊢
    have hne : ((er0 : Int) != 0) = true := by simp; omega
    go_enter Tryz.func82, Tryz.ntmps82
    go_wp2_with (go_at_call 94; refine hn.mono ?_; rintro e w' ⟨rfl, hw'⟩; subst w')
    go_ret3
    exact ⟨rfl, rfl⟩

set_option maxRecDepth 1000000 in
theorem rd_cut (base b a c n z er E : Nat) (x l : List UInt8) (w : World) (h : RdAt w base b l a E) (hc : c ≤ l.length) (hn : n ≤ 9223372036854775807) (hq : cutR l c n = (x, z, er)) :
    Calls Tryz.prog 97 #[.pointer (some ⟨b, 0, none⟩), .int .i64 c, .int .i64 n] w fun e w' => Told (.string (bs x)) z er e ∧ w' = w := by
  obtain ⟨c0, _, _, _⟩ := wcells3 h.mem
  have hlen := h.len
  have hsz : (bs l).size = l.length := bs_size l
  unfold cutR at hq
  clear h
  by_cases h1 : l.length - c < n
  · rw [if_pos h1] at hq
    simp at hq
    obtain ⟨rfl, rfl, rfl⟩ := hq
    have h2 : (l.length : Int) - (c : Int) < (n : Int) := by omega
    go_enter Tryz.func97, Tryz.ntmps97
    go_wp2
    go_ret3
    exact ⟨rfl, rfl⟩
  · rw [if_neg h1] at hq
    simp at hq
    obtain ⟨rfl, rfl, rfl⟩ := hq
    have h2 : ¬ (l.length : Int) - (c : Int) < (n : Int) := by omega
    have hcut : (bs l).extract c (c + n) = bs (List.take n (List.drop c l)) := by rw [bs_cut, List.drop_take, Nat.add_sub_cancel_left]
    have hsl : ∀ w, (Instr.slice 9 (.string (bs l)) (some (.int .i64 (c : Int))) (some (.int .i64 ((c : Int) + (n : Int)))) none).run Tryz.prog w = .ok (.string (bs (List.take n (List.drop c l)))) w := fun w => by
      rw [run_slice_string w 9 (bs l) .i64 .i64 _ _ Tryz.underlying9 (by omega) (by omega) (by rw [bs_size]; omega), ← hcut]
      simp
      rfl
    clear hcut
    go_enter Tryz.func97, Tryz.ntmps97
    go_wp2
    go_ret3
    exact ⟨by simp, rfl⟩

set_option maxRecDepth 1000000 in
theorem stp_upto (base b a v t er E x1 x2 : Nat) (N : Int) (l : List UInt8) (w : World) (h : RdAt w base b l a E) (hN : -9223372036854775808 ≤ N ∧ N ≤ 9223372036854775807) (hb : w.cell? ⟨x1, 0, none⟩ = some (.pointer (some ⟨b, 0, none⟩))) (hb2 : w.cell? ⟨x2, 0, none⟩ = some (.int .i64 N)) (hq : bnd (l.drop a) N 8 = (v, t, er)) :
    Calls Tryz.prog 81 #[.int .i64 a, .pointer (some ⟨x1, 0, none⟩), .pointer (some ⟨x2, 0, none⟩)] w fun e w' => Told (.int .i64 v) (zat a t er) er e ∧ w' = w := by
  have hn := fun m => rd_bounded base b a v t er E 8 N l (w.drewN m) (h.more (More.drewN w m)) (by decide) hN hq
  clear h hq
  generalize zat a t er = z at *
  go_enter Tryz.func81, Tryz.ntmps81
  go_wp2_with (go_at_call 82; refine (hn 0).mono ?_; rintro e w' ⟨rfl, hw'⟩; subst w')
  go_ret3
  exact ⟨rfl, rfl⟩

set_option maxRecDepth 1000000 in
theorem stp_raw (base b a t er E x1 x2 : Nat) (N : Int) (v l : List UInt8) (w : World) (h : RdAt w base b l a E) (hN : -9223372036854775808 ≤ N ∧ N ≤ 9223372036854775807) (hb : w.cell? ⟨x1, 0, none⟩ = some (.pointer (some ⟨b, 0, none⟩))) (hb2 : w.cell? ⟨x2, 0, none⟩ = some (.int .i64 N)) (hq : rdR (l.drop a) N = (v, t, er)) :
    Calls Tryz.prog 96 #[.int .i64 a, .pointer (some ⟨x2, 0, none⟩), .pointer (some ⟨x1, 0, none⟩)] w fun e w' => Told (.string (bs v)) (zat a t er) er e ∧ w' = w := by
  unfold rdR at hq
  by_cases h0 : N < 0
  · rw [if_pos h0] at hq
    simp at hq
    obtain ⟨rfl, rfl, rfl⟩ := hq
    clear h
    rw [zat_no _ _ (by decide)]
    go_enter Tryz.func96, Tryz.ntmps96
    go_wp2
    go_ret3
    exact ⟨rfl, rfl⟩
  · rw [if_neg h0] at hq
    obtain ⟨n, rfl⟩ := Int.eq_ofNat_of_zero_le (show 0 ≤ N by omega)
    rw [Int.toNat_natCast] at hq
    have hc := fun m => rd_cut base b a a n (zat a t er) er E v l (w.drewN m) (h.more (More.drewN w m)) h.le (by omega) (cut_rel hq)
    clear h hq
    generalize zat a t er = z at *
    go_enter Tryz.func96, Tryz.ntmps96
    go_wp2_with (go_at_call 97; refine (hc 0).mono ?_; rintro e w' ⟨rfl, hw'⟩; subst w')
    go_ret3
    exact ⟨rfl, rfl⟩

end Go.Proofs.YtbjgbigalfhnjaaGreatDoor
