/-
  wire's Reader: bounded, cut, unfolded, and the steps that are handed in.
-/
import Derived.Test.YtlghcnobgpocjaaWireRead
import Derived.Test.YtlghcnobgpocjaaWireWrite
namespace Go.Proofs.Ytlghcnobgpocjaa
open Go.RowKit

theorem rdI_ok {l : List UInt8} {v : Int} {t er : Nat} (h : rdI l = (v, t, er)) : t ≤ l.length ∧ (er ≠ 0 → v = 0 ∧ t = 0) := by
  obtain ⟨h1, h2, h3, h4, h5⟩ := fst_ok (show fst l = ((fst l).1, (fst l).2.1, (fst l).2.2) from rfl)
  unfold rdI at h
  simp at h
  obtain ⟨rfl, rfl, rfl⟩ := h
  refine ⟨h1, fun he => ?_⟩
  obtain ⟨e1, e2⟩ := h3 he
  rw [e1, e2]
  exact ⟨rfl, rfl⟩
theorem rdT_ok {l x : List UInt8} {N : Int} {t er : Nat} (h : rdT l N = (x, t, er)) : t ≤ l.length ∧ (er ≠ 0 → x = [] ∧ t = 0) := by
  obtain ⟨h1, h2, h3, h4, h5⟩ := bnd_ok (show bnd l N 5 = ((bnd l N 5).1, (bnd l N 5).2.1, (bnd l N 5).2.2) from rfl)
  unfold rdT at h
  split at h
  · simp at h
    obtain ⟨rfl, rfl, rfl⟩ := h
    simp
  · obtain ⟨k1, k2, _⟩ := cutR_ok h1 h
    exact ⟨k1, k2⟩
theorem rdR_ok {l x : List UInt8} {N : Int} {t er : Nat} (h : rdR l N = (x, t, er)) : t ≤ l.length ∧ (er ≠ 0 → x = [] ∧ t = 0) := by
  unfold rdR at h
  split at h
  · simp at h
    obtain ⟨rfl, rfl, rfl⟩ := h
    simp
  · obtain ⟨k1, k2, _⟩ := cutR_ok (Nat.zero_le _) h
    exact ⟨k1, k2⟩
/-- What is cut, told from the whole. -/
theorem cut_rel {l x : List UInt8} {a t n t' er : Nat} (h : cutR (l.drop a) t n = (x, t', er)) : cutR l (a + t) n = (x, zat a t' er, er) := by
  unfold cutR at h ⊢
  rw [List.length_drop, List.drop_drop] at h
  by_cases h1 : l.length - a - t < n
  · rw [if_pos h1] at h
    rw [if_pos (by omega)]
    simp at h
    obtain ⟨rfl, rfl, rfl⟩ := h
    rfl
  · rw [if_neg h1] at h
    rw [if_neg (by omega)]
    simp at h
    obtain ⟨rfl, rfl, rfl⟩ := h
    rw [zat_ok]
    simp
    omega

theorem and_one (v : Nat) (h : v < 18446744073709551616) : bits .and .u64 (v : Int) 1 = ((v % 2 : Nat) : Int) := by
  have := bits_and_u64_nat v 1 h (by decide)
  rw [Nat.and_one_is_mod] at this
  exact this

theorem unfolded (v : Nat) (hv : v < 18446744073709551616) (w : World) : Calls Try.prog 39 #[.int .u64 v] w fun e w' => e = .returned (.int .i64 (unf v)) ∧ w' = w := by
  have ha := and_one v hv
  have hx := xor_all (v / 2) (by omega)
  have hd := Hid.mk (show (v : Int) / 2 = ((v / 2 : Nat) : Int) by omega)
  have hx := Hid.mk hx
  by_cases h : v % 2 = 1
  · rw [h] at ha
    have hu := Hid.mk (show unf v = -((v / 2 : Nat) : Int) - 1 by unfold unf; rw [if_pos h])
    go_enter Try.func39, Try.ntmps39
    go_wp2
    go_ret
    refine ⟨?_, rfl⟩
    have e : IntKind.i64.wrap (bits .xor .u64 IntKind.u64.max ((v : Int) / 2)) = unf v := by rw [hd.out, hx.out, hu.out, IntKind.wrap_i64]; omega
    simp
    rw [← IntWalk.i64_left]
    exact e
  · have h0 : v % 2 = 0 := by omega
    rw [h0] at ha
    have hu := Hid.mk (show unf v = ((v / 2 : Nat) : Int) by unfold unf; rw [if_neg h])
    go_enter Try.func39, Try.ntmps39
    go_wp2
    go_ret
    refine ⟨?_, rfl⟩
    have e : (v : Int) / 2 = unf v := by rw [hu.out, hd.out]
    simp [e]

set_option maxRecDepth 1000000 in
theorem rd_bounded (base b a v t er E ab : Nat) (N : Int) (l : List UInt8) (w : World) (h : RdAt w base b l a E) (hab : ab ≠ 0) (hN : -9223372036854775808 ≤ N ∧ N ≤ 9223372036854775807) (hq : bnd (l.drop a) N ab = (v, t, er)) :
    Calls Try.prog 42 #[.pointer (some ⟨b, 0, none⟩), .int .i64 a, .int .i64 N, .int .i64 ab] w fun e w' => Told (.int .i64 v) (zat a t er) er e ∧ w' = w := by
  obtain ⟨v0, t0, er0, h0⟩ : ∃ v0 t0 er0, fst (l.drop a) = (v0, t0, er0) := ⟨_, _, _, rfl⟩
  have hn := rd_number base b a v0 t0 er0 E l w h h0
  obtain ⟨_, hv64, _, _, _⟩ := fst_ok h0
  unfold bnd at hq
  rw [h0] at hq
  simp only at hq
  clear h h0
  by_cases e0 : er0 = 0
  · subst e0
    rw [if_neg (by simp)] at hq
    rw [zat_ok] at hn
    by_cases hN0 : N < 0
    · rw [if_pos (.inl hN0)] at hq
      simp at hq
      obtain ⟨rfl, rfl, rfl⟩ := hq
      rw [zat_no _ _ hab]
      go_enter Try.func42, Try.ntmps42
      go_wp2_with (go_at_call 36; refine hn.mono ?_; rintro e w' ⟨rfl, hw'⟩; subst w')
      go_ret3
      exact ⟨rfl, rfl⟩
    · by_cases hNv : N < (v0 : Int)
      · rw [if_pos (.inr hNv)] at hq
        simp at hq
        obtain ⟨rfl, rfl, rfl⟩ := hq
        rw [zat_no _ _ hab]
        go_enter Try.func42, Try.ntmps42
        go_wp2_with (go_at_call 36; refine hn.mono ?_; rintro e w' ⟨rfl, hw'⟩; subst w')
        go_ret3
        exact ⟨rfl, rfl⟩
      · rw [if_neg (by omega)] at hq
        simp at hq
        obtain ⟨rfl, rfl, rfl⟩ := hq
        rw [zat_ok]
        go_enter Try.func42, Try.ntmps42
        go_wp2_with (go_at_call 36; refine hn.mono ?_; rintro e w' ⟨rfl, hw'⟩; subst w')
        go_ret3
        exact ⟨rfl, rfl⟩
  · rw [if_pos e0] at hq
    simp at hq
    obtain ⟨rfl, rfl, rfl⟩ := hq
    rw [zat_no _ _ e0] at hn ⊢
    have hne : ((er0 : Int) != 0) = true := by simp; omega
    go_enter Try.func42, Try.ntmps42
    go_wp2_with (go_at_call 36; refine hn.mono ?_; rintro e w' ⟨rfl, hw'⟩; subst w')
    go_ret3
    exact ⟨rfl, rfl⟩

set_option maxRecDepth 1000000 in
theorem rd_cut (base b a c n z er E : Nat) (x l : List UInt8) (w : World) (h : RdAt w base b l a E) (hc : c ≤ l.length) (hn : n ≤ 9223372036854775807) (hq : cutR l c n = (x, z, er)) :
    Calls Try.prog 43 #[.pointer (some ⟨b, 0, none⟩), .int .i64 c, .int .i64 n] w fun e w' => Told (.string (bs x)) z er e ∧ w' = w := by
  obtain ⟨c0, _, _, _⟩ := cells3 h.mem
  have hlen := h.len
  have hsz : (bs l).size = l.length := bs_size l
  unfold cutR at hq
  clear h
  by_cases h1 : l.length - c < n
  · rw [if_pos h1] at hq
    simp at hq
    obtain ⟨rfl, rfl, rfl⟩ := hq
    have h2 : (l.length : Int) - (c : Int) < (n : Int) := by omega
    go_enter Try.func43, Try.ntmps43
    go_wp2
    go_ret3
    exact ⟨rfl, rfl⟩
  · rw [if_neg h1] at hq
    simp at hq
    obtain ⟨rfl, rfl, rfl⟩ := hq
    have h2 : ¬ (l.length : Int) - (c : Int) < (n : Int) := by omega
    have hcut : (bs l).extract c (c + n) = bs (List.take n (List.drop c l)) := by rw [bs_cut, List.drop_take, Nat.add_sub_cancel_left]
    have hsl : ∀ w, (Instr.slice 9 (.string (bs l)) (some (.int .i64 (c : Int))) (some (.int .i64 ((c : Int) + (n : Int)))) none).run Try.prog w = .ok (.string (bs (List.take n (List.drop c l)))) w := fun w => by
      rw [run_slice_string w 9 (bs l) .i64 .i64 _ _ Try.underlying9 (by omega) (by omega) (by rw [bs_size]; omega), ← hcut]
      simp
      rfl
    clear hcut
    go_enter Try.func43, Try.ntmps43
    go_wp2
    go_ret3
    exact ⟨by simp, rfl⟩

set_option maxRecDepth 1000000 in
theorem stp_int (base b a : Nat) (v : Int) (t er E x1 : Nat) (l : List UInt8) (w : World) (h : RdAt w base b l a E) (hb : w.cell? ⟨x1, 0, none⟩ = some (.pointer (some ⟨b, 0, none⟩))) (hq : rdI (l.drop a) = (v, t, er)) :
    Calls Try.prog 38 #[.int .i64 a, .pointer (some ⟨x1, 0, none⟩)] w fun e w' => Told (.int .i64 v) (zat a t er) er e ∧ w' = w := by
  obtain ⟨v0, t0, er0, h0⟩ : ∃ v0 t0 er0, fst (l.drop a) = (v0, t0, er0) := ⟨_, _, _, rfl⟩
  have hn := rd_number base b a v0 t0 er0 E l w h h0
  obtain ⟨_, hv64, _, _, _⟩ := fst_ok h0
  have hu := fun w => unfolded v0 hv64 w
  unfold rdI at hq
  rw [h0] at hq
  simp at hq
  obtain ⟨rfl, rfl, rfl⟩ := hq
  clear h h0
  generalize zat a t0 er0 = z at *
  generalize unf v0 = y at *
  go_enter Try.func38, Try.ntmps38
  go_wp2_with (first
    | (go_at_call 36; refine hn.mono ?_; rintro e w' ⟨rfl, hw'⟩; subst w')
    | (go_at_call 39; refine (hu _).mono ?_; rintro e w' ⟨rfl, hw'⟩; subst w'))
  go_ret3
  exact ⟨rfl, rfl⟩

set_option maxRecDepth 1000000 in
theorem stp_upto (base b a v t er E x1 x2 : Nat) (N : Int) (l : List UInt8) (w : World) (h : RdAt w base b l a E) (hN : -9223372036854775808 ≤ N ∧ N ≤ 9223372036854775807) (hb : w.cell? ⟨x1, 0, none⟩ = some (.pointer (some ⟨b, 0, none⟩))) (hb2 : w.cell? ⟨x2, 0, none⟩ = some (.int .i64 N)) (hq : bnd (l.drop a) N 8 = (v, t, er)) :
    Calls Try.prog 47 #[.int .i64 a, .pointer (some ⟨x1, 0, none⟩), .pointer (some ⟨x2, 0, none⟩)] w fun e w' => Told (.int .i64 v) (zat a t er) er e ∧ w' = w := by
  have hn := fun m => rd_bounded base b a v t er E 8 N l (w.drewN m) (h.more (More.drewN w m)) (by decide) hN hq
  clear h hq
  generalize zat a t er = z at *
  go_enter Try.func47, Try.ntmps47
  go_wp2_with (go_at_call 42; refine (hn 0).mono ?_; rintro e w' ⟨rfl, hw'⟩; subst w')
  go_ret3
  exact ⟨rfl, rfl⟩

set_option maxRecDepth 1000000 in
theorem stp_text (base b a t er E x1 x2 : Nat) (N : Int) (v l : List UInt8) (w : World) (h : RdAt w base b l a E) (hN : -9223372036854775808 ≤ N ∧ N ≤ 9223372036854775807) (hb : w.cell? ⟨x1, 0, none⟩ = some (.pointer (some ⟨b, 0, none⟩))) (hb2 : w.cell? ⟨x2, 0, none⟩ = some (.int .i64 N)) (hq : rdT (l.drop a) N = (v, t, er)) :
    Calls Try.prog 41 #[.int .i64 a, .pointer (some ⟨x1, 0, none⟩), .pointer (some ⟨x2, 0, none⟩)] w fun e w' => Told (.string (bs v)) (zat a t er) er e ∧ w' = w := by
  obtain ⟨n, t0, er0, h0⟩ : ∃ v0 t0 er0, bnd (l.drop a) N 5 = (v0, t0, er0) := ⟨_, _, _, rfl⟩
  have hn := rd_bounded base b a n t0 er0 E 5 N l w h (by decide) hN h0
  obtain ⟨k1, k2, k3, k4, k5⟩ := bnd_ok h0
  unfold rdT at hq
  rw [h0] at hq
  simp only at hq
  have hle := h.le
  rw [List.length_drop] at k1
  by_cases e0 : er0 = 0
  · subst e0
    rw [if_neg (by simp)] at hq
    rw [zat_ok] at hn
    have hc := rd_cut base b a (a + t0) n (zat a t er) er E v l w h (by omega) (by omega) (cut_rel hq)
    clear h hq h0
    generalize zat a t er = z at *
    go_enter Try.func41, Try.ntmps41
    go_wp2_with (first
      | (go_at_call 42; refine hn.mono ?_; rintro e w' ⟨rfl, hw'⟩; subst w')
      | (go_at_call 43; refine hc.mono ?_; rintro e w' ⟨rfl, hw'⟩; subst w'))
    go_ret3
    exact ⟨rfl, rfl⟩
  · rw [if_pos e0] at hq
    simp at hq
    obtain ⟨rfl, rfl, rfl⟩ := hq
    rw [zat_no _ _ e0] at hn ⊢
    have hne : ((er0 : Int) != 0) = true := by simp; omega
    clear h h0
    go_enter Try.func41, Try.ntmps41
    go_wp2_with (go_at_call 42; refine hn.mono ?_; rintro e w' ⟨rfl, hw'⟩; subst w')
    go_ret3
    exact ⟨rfl, rfl⟩

set_option maxRecDepth 1000000 in
theorem stp_raw (base b a t er E x1 x2 : Nat) (N : Int) (v l : List UInt8) (w : World) (h : RdAt w base b l a E) (hN : -9223372036854775808 ≤ N ∧ N ≤ 9223372036854775807) (hb : w.cell? ⟨x1, 0, none⟩ = some (.pointer (some ⟨b, 0, none⟩))) (hb2 : w.cell? ⟨x2, 0, none⟩ = some (.int .i64 N)) (hq : rdR (l.drop a) N = (v, t, er)) :
    Calls Try.prog 44 #[.int .i64 a, .pointer (some ⟨x2, 0, none⟩), .pointer (some ⟨x1, 0, none⟩)] w fun e w' => Told (.string (bs v)) (zat a t er) er e ∧ w' = w := by
  unfold rdR at hq
  by_cases h0 : N < 0
  · rw [if_pos h0] at hq
    simp at hq
    obtain ⟨rfl, rfl, rfl⟩ := hq
    clear h
    rw [zat_no _ _ (by decide)]
    go_enter Try.func44, Try.ntmps44
    go_wp2
    go_ret3
    exact ⟨rfl, rfl⟩
  · rw [if_neg h0] at hq
    obtain ⟨n, rfl⟩ := Int.eq_ofNat_of_zero_le (show 0 ≤ N by omega)
    rw [Int.toNat_natCast] at hq
    have hc := fun m => rd_cut base b a a n (zat a t er) er E v l (w.drewN m) (h.more (More.drewN w m)) h.le (by omega) (cut_rel hq)
    clear h hq
    generalize zat a t er = z at *
    go_enter Try.func44, Try.ntmps44
    go_wp2_with (go_at_call 43; refine (hc 0).mono ?_; rintro e w' ⟨rfl, hw'⟩; subst w')
    go_ret3
    exact ⟨rfl, rfl⟩

end Go.Proofs.Ytlghcnobgpocjaa
