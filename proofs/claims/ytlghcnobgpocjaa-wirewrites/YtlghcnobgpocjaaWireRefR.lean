/-
  The document's 10: its Reader.
-/
import Derived.Test.YtlghcnobgpocjaaWireRef
import Derived.Test.YtlghcnobgpocjaaWireTake
namespace Go.Proofs.Ytlghcnobgpocjaa
open Go.RowKit

theorem slice_from (l : List UInt8) (t : Nat) (z : Int) (hz : z = t) (ht : t ≤ l.length) (w : World) : (Instr.slice 9 (.string (bs l)) (some (.int .i64 z)) none none).run Try.prog w = .ok (.string (bs (l.drop t))) w := by
  subst hz
  rw [run_slice_string_from_if w 9 (bs l) .i64 _ Try.underlying9, if_pos (by rw [bs_size]; omega)]
  rw [Int.toNat_natCast, bs_cut, bs_size, List.take_length]
theorem slice_to (l : List UInt8) (t : Nat) (z : Int) (hz : z = t) (ht : t ≤ l.length) (w : World) : (Instr.slice 9 (.string (bs l)) none (some (.int .i64 z)) none).run Try.prog w = .ok (.string (bs (l.take t))) w := by
  subst hz
  rw [run_slice_string_to_if w 9 (bs l) .i64 _ Try.underlying9, if_pos (by rw [bs_size]; omega)]
  rw [Int.toNat_natCast, bs_cut, List.drop_zero]
theorem slice_mid (l : List UInt8) (a n : Nat) (z y : Int) (hz : z = a) (hy : y = ((a + n : Nat) : Int)) (ht : a + n ≤ l.length) (w : World) : (Instr.slice 9 (.string (bs l)) (some (.int .i64 z)) (some (.int .i64 y)) none).run Try.prog w = .ok (.string (bs ((l.drop a).take n))) w := by
  subst hz hy
  rw [run_slice_string w 9 (bs l) .i64 .i64 _ _ Try.underlying9 (by omega) (by omega) (by rw [bs_size]; omega)]
  rw [Int.toNat_natCast, Int.toNat_natCast, bs_cut, List.drop_take, Nat.add_sub_cancel_left]

/-- An error, and nothing taken. -/
theorem XAt.err0 {w : World} {base x E E' : Nat} {l : List UInt8} (h : XAt w base x l E) : XAt (w.setCell ⟨x, 1, none⟩ (.int .i64 E')) base x (l.drop 0) E' ∧ Keeps XT base w (w.setCell ⟨x, 1, none⟩ (.int .i64 E')) := h.errs
/-- The error is told, and t bytes are taken. -/
theorem XAt.both {w : World} {base x E E' t : Nat} {l : List UInt8} (h : XAt w base x l E) : XAt ((w.setCell ⟨x, 1, none⟩ (.int .i64 E')).setCell ⟨x, 0, none⟩ (.string (bs (l.drop t)))) base x (l.drop t) E' ∧ Keeps XT base w ((w.setCell ⟨x, 1, none⟩ (.int .i64 E')).setCell ⟨x, 0, none⟩ (.string (bs (l.drop t)))) := by
  have h1 := h.errs (E' := E')
  have h2 := h1.1.goes (l' := l.drop t) (by rw [List.length_drop]; have := h.len; omega)
  exact ⟨h2.1, h1.2.trans h2.2⟩

set_option maxRecDepth 1000000 in
theorem ref_rnum (base x t er E v : Nat) (l : List UInt8) (w : World) (h : XAt w base x l E) (hq : st E 0 (fst l) = (v, t, er)) :
    Calls Try.prog 28 #[.pointer (some ⟨x, 0, none⟩)] w fun e w' => e = .returned (.int .u64 v) ∧ XAt w' base x (l.drop t) er ∧ Keeps XT base w w' := by
  obtain ⟨c0, c1, z0, z1⟩ := cells2 h.mem
  by_cases hE : E = 0
  · subst hE
    rw [st_ok] at hq
    have hf := fun w => ref_first v t er l h.len w hq
    have hs := slice_from l t t rfl (fst_ok hq).1
    have HH := Hid.mk (h.both (E' := er) (t := t))
    clear h hq
    go_enter Try.func28, Try.ntmps28
    go_wp2_with (go_at_call 46; refine (hf _).mono ?_; rintro e w' ⟨rfl, hw'⟩; subst w')
    go_ret
    exact ⟨rfl, HH.out⟩
  · rw [st_no hE] at hq
    simp only [Prod.mk.injEq] at hq
    obtain ⟨rfl, rfl, rfl⟩ := hq
    have HH := Hid.mk h
    have hne : ((E : Int) != 0) = true := by simp; omega
    clear h hE
    go_enter Try.func28, Try.ntmps28
    go_wp2
    go_ret
    exact ⟨rfl, HH.out, Keeps.refl _ _ _⟩

set_option maxRecDepth 1000000 in
theorem ref_rint (base x t er E : Nat) (v : Int) (l : List UInt8) (w : World) (h : XAt w base x l E) (hq : st E 0 (rdI l) = (v, t, er)) :
    Calls Try.prog 29 #[.pointer (some ⟨x, 0, none⟩)] w fun e w' => e = .returned (.int .i64 v) ∧ XAt w' base x (l.drop t) er ∧ Keeps XT base w w' := by
  obtain ⟨u, hu⟩ : ∃ u, st E 0 (fst l) = (u, t, er) ∧ v = unf u ∧ u < 18446744073709551616 := by
    by_cases hE : E = 0
    · subst hE
      rw [st_ok] at hq ⊢
      unfold rdI at hq
      simp at hq
      exact ⟨(fst l).1, by rw [← hq.2.1, ← hq.2.2], hq.1.symm, (fst_ok (show fst l = ((fst l).1, (fst l).2.1, (fst l).2.2) from rfl)).2.1⟩
    · rw [st_no hE] at hq ⊢
      simp at hq
      exact ⟨0, by rw [← hq.2.1, ← hq.2.2], by rw [← hq.1]; rfl, by decide⟩
  obtain ⟨h1, rfl, h64⟩ := hu
  have hn := ref_rnum base x t er E u l w h h1
  clear h hq h1
  by_cases hm : u % 2 = 1
  · have hU := Hid.mk (show unf u = - ((u / 2 : Nat) : Int) - 1 by unfold unf; rw [if_pos hm])
    have hmi : (u : Int) % 2 = 1 := by omega
    go_enter Try.func29, Try.ntmps29
    go_wp2_with (go_at_call 28; refine hn.mono ?_; rintro e w1 ⟨rfl, hr⟩; have H1 := Hid.mk hr; clear hr hn)
    go_ret
    refine ⟨?_, H1.out⟩
    rw [hU.out]
    simp
  · have hU := Hid.mk (show unf u = ((u / 2 : Nat) : Int) by unfold unf; rw [if_neg hm])
    have hmi : (u : Int) % 2 = 0 := by omega
    go_enter Try.func29, Try.ntmps29
    go_wp2_with (go_at_call 28; refine hn.mono ?_; rintro e w1 ⟨rfl, hr⟩; have H1 := Hid.mk hr; clear hr hn)
    go_ret
    refine ⟨?_, H1.out⟩
    rw [hU.out]
    simp

set_option maxRecDepth 1000000 in
theorem ref_rupto (base x t er E v : Nat) (N : Int) (l : List UInt8) (w : World) (h : XAt w base x l E) (hN : -9223372036854775808 ≤ N ∧ N ≤ 9223372036854775807) (hq : st E 0 (bnd l N 8) = (v, t, er)) :
    Calls Try.prog 33 #[.pointer (some ⟨x, 0, none⟩), .int .i64 N] w fun e w' => e = .returned (.int .i64 v) ∧ XAt w' base x (l.drop t) er ∧ Keeps XT base w w' := by
  obtain ⟨c0, c1, z0, z1⟩ := cells2 h.mem
  by_cases hE : E = 0
  · subst hE
    rw [st_ok] at hq
    obtain ⟨v0, t0, er0, h0⟩ : ∃ v0 t0 er0, fst l = (v0, t0, er0) := ⟨_, _, _, rfl⟩
    have hf := fun w => ref_first v0 t0 er0 l h.len w h0
    have hok := fst_ok h0
    have hs := slice_from l t0 t0 rfl hok.1
    have HH := Hid.mk (And.intro (fun E' => h.err0 (E' := E')) (h.both (E' := 0) (t := t0)))
    unfold bnd at hq
    rw [h0] at hq
    simp only at hq
    have hv64 := hok.2.1
    clear h h0 hok
    by_cases e0 : er0 = 0
    · subst e0
      rw [if_neg (by simp)] at hq
      by_cases hN0 : N < 0
      · rw [if_pos (.inl hN0)] at hq
        simp at hq
        obtain ⟨rfl, rfl, rfl⟩ := hq
        go_enter Try.func33, Try.ntmps33
        go_wp2_with (go_at_call 46; refine (hf _).mono ?_; rintro e w' ⟨rfl, hw'⟩; subst w')
        go_ret
        exact ⟨rfl, HH.out.1 8⟩
      · by_cases hNv : N < (v0 : Int)
        · rw [if_pos (.inr hNv)] at hq
          simp at hq
          obtain ⟨rfl, rfl, rfl⟩ := hq
          go_enter Try.func33, Try.ntmps33
          go_wp2_with (go_at_call 46; refine (hf _).mono ?_; rintro e w' ⟨rfl, hw'⟩; subst w')
          go_ret
          exact ⟨rfl, HH.out.1 8⟩
        · rw [if_neg (by omega)] at hq
          simp at hq
          obtain ⟨rfl, rfl, rfl⟩ := hq
          go_enter Try.func33, Try.ntmps33
          go_wp2_with (go_at_call 46; refine (hf _).mono ?_; rintro e w' ⟨rfl, hw'⟩; subst w')
          go_ret
          exact ⟨rfl, HH.out.2⟩
    · rw [if_pos e0] at hq
      simp at hq
      obtain ⟨rfl, rfl, rfl⟩ := hq
      have hne : ((er0 : Int) != 0) = true := by simp; omega
      have hne2 : ((er0 : Int) == 0) = false := by simp; omega
      go_enter Try.func33, Try.ntmps33
      go_wp2_with (go_at_call 46; refine (hf _).mono ?_; rintro e w' ⟨rfl, hw'⟩; subst w')
      go_ret
      exact ⟨rfl, HH.out.1 er0⟩
  · rw [st_no hE] at hq
    simp only [Prod.mk.injEq] at hq
    obtain ⟨rfl, rfl, rfl⟩ := hq
    have HH := Hid.mk h
    have hne : ((E : Int) != 0) = true := by simp; omega
    clear h hE
    go_enter Try.func33, Try.ntmps33
    go_wp2
    go_ret
    exact ⟨rfl, HH.out, Keeps.refl _ _ _⟩

set_option maxHeartbeats 800000 in
set_option maxRecDepth 1000000 in
theorem ref_rtext (base x t er E : Nat) (N : Int) (v l : List UInt8) (w : World) (h : XAt w base x l E) (hN : -9223372036854775808 ≤ N ∧ N ≤ 9223372036854775807) (hq : st E [] (rdT l N) = (v, t, er)) :
    Calls Try.prog 30 #[.pointer (some ⟨x, 0, none⟩), .int .i64 N] w fun e w' => e = .returned (.string (bs v)) ∧ XAt w' base x (l.drop t) er ∧ Keeps XT base w w' := by
  obtain ⟨c0, c1, z0, z1⟩ := cells2 h.mem
  have hlen := h.len
  have hsz : (bs l).size = l.length := bs_size l
  by_cases hE : E = 0
  · subst hE
    rw [st_ok] at hq
    obtain ⟨v0, t0, er0, h0⟩ : ∃ v0 t0 er0, fst l = (v0, t0, er0) := ⟨_, _, _, rfl⟩
    have hf := fun w => ref_first v0 t0 er0 l h.len w h0
    have hok := fst_ok h0
    have HH := Hid.mk (And.intro (fun E' => h.err0 (E' := E')) (fun t => h.both (E' := 0) (t := t)))
    unfold rdT bnd at hq
    rw [h0] at hq
    simp only at hq
    have hv64 := hok.2.1
    have ht0 := hok.1
    clear h h0 hok
    by_cases e0 : er0 = 0
    · subst e0
      rw [if_neg (show ¬ (0 ≠ 0) by simp)] at hq
      by_cases hN0 : N < 0
      · rw [if_pos (show N < 0 ∨ N < (v0 : Int) from .inl hN0)] at hq
        simp at hq
        obtain ⟨rfl, rfl, rfl⟩ := hq
        go_enter Try.func30, Try.ntmps30
        go_wp2_with (go_at_call 46; refine (hf _).mono ?_; rintro e w' ⟨rfl, hw'⟩; subst w')
        go_ret
        exact ⟨rfl, HH.out.1 5⟩
      · by_cases hNv : N < (v0 : Int)
        · rw [if_pos (show N < 0 ∨ N < (v0 : Int) from .inr hNv)] at hq
          simp at hq
          obtain ⟨rfl, rfl, rfl⟩ := hq
          go_enter Try.func30, Try.ntmps30
          go_wp2_with (go_at_call 46; refine (hf _).mono ?_; rintro e w' ⟨rfl, hw'⟩; subst w')
          go_ret
          exact ⟨rfl, HH.out.1 5⟩
        · rw [if_neg (show ¬ (N < 0 ∨ N < (v0 : Int)) by omega)] at hq
          rw [if_neg (by simp)] at hq
          simp only at hq
          unfold cutR at hq
          by_cases hs : l.length - t0 < v0
          · rw [if_pos hs] at hq
            simp at hq
            obtain ⟨rfl, rfl, rfl⟩ := hq
            have hs2 : (l.length : Int) - (t0 : Int) < (v0 : Int) := by omega
            go_enter Try.func30, Try.ntmps30
            go_wp2_with (go_at_call 46; refine (hf _).mono ?_; rintro e w' ⟨rfl, hw'⟩; subst w')
            go_ret
            exact ⟨rfl, HH.out.1 2⟩
          · rw [if_neg hs] at hq
            simp at hq
            obtain ⟨rfl, rfl, rfl⟩ := hq
            have hs2 : ¬ (l.length : Int) - (t0 : Int) < (v0 : Int) := by omega
            have hm := slice_mid l t0 v0 t0 ((t0 : Int) + (v0 : Int)) rfl (by omega) (by omega)
            have hfr := slice_from l (t0 + v0) ((t0 : Int) + (v0 : Int)) (by omega) (by omega)
            have H2 := Hid.mk (HH.out.2 (t0 + v0))
            clear HH
            generalize List.take v0 (List.drop t0 l) = out at *
            generalize List.drop (t0 + v0) l = rest at *
            go_enter Try.func30, Try.ntmps30
            go_wp2_with (go_at_call 46; refine (hf _).mono ?_; rintro e w' ⟨rfl, hw'⟩; subst w')
            go_ret
            exact ⟨rfl, H2.out⟩
    · rw [if_pos e0] at hq
      simp [e0] at hq
      obtain ⟨rfl, rfl, rfl⟩ := hq
      have hne : ((er0 : Int) != 0) = true := by simp; omega
      have hne2 : ((er0 : Int) == 0) = false := by simp; omega
      go_enter Try.func30, Try.ntmps30
      go_wp2_with (go_at_call 46; refine (hf _).mono ?_; rintro e w' ⟨rfl, hw'⟩; subst w')
      go_ret
      exact ⟨rfl, HH.out.1 er0⟩
  · rw [st_no hE] at hq
    simp only [Prod.mk.injEq] at hq
    obtain ⟨rfl, rfl, rfl⟩ := hq
    have HH := Hid.mk h
    have hne : ((E : Int) != 0) = true := by simp; omega
    clear h hE
    go_enter Try.func30, Try.ntmps30
    go_wp2
    go_ret
    exact ⟨rfl, HH.out, Keeps.refl _ _ _⟩

set_option maxRecDepth 1000000 in
theorem ref_rraw (base x t er E : Nat) (N : Int) (v l : List UInt8) (w : World) (h : XAt w base x l E) (hN : -9223372036854775808 ≤ N ∧ N ≤ 9223372036854775807) (hq : st E [] (rdR l N) = (v, t, er)) :
    Calls Try.prog 31 #[.pointer (some ⟨x, 0, none⟩), .int .i64 N] w fun e w' => e = .returned (.string (bs v)) ∧ XAt w' base x (l.drop t) er ∧ Keeps XT base w w' := by
  obtain ⟨c0, c1, z0, z1⟩ := cells2 h.mem
  have hlen := h.len
  have hsz : (bs l).size = l.length := bs_size l
  by_cases hE : E = 0
  · subst hE
    rw [st_ok] at hq
    unfold rdR at hq
    by_cases hN0 : N < 0
    · rw [if_pos hN0] at hq
      simp at hq
      obtain ⟨rfl, rfl, rfl⟩ := hq
      have HH := Hid.mk (h.err0 (E' := 1))
      clear h
      go_enter Try.func31, Try.ntmps31
      go_wp2
      go_ret
      exact ⟨rfl, HH.out⟩
    · rw [if_neg hN0] at hq
      obtain ⟨n, rfl⟩ := Int.eq_ofNat_of_zero_le (show 0 ≤ N by omega)
      rw [Int.toNat_natCast] at hq
      unfold cutR at hq
      by_cases hs : l.length < n
      · rw [if_pos (by omega)] at hq
        simp at hq
        obtain ⟨rfl, rfl, rfl⟩ := hq
        have HH := Hid.mk (h.err0 (E' := 2))
        clear h
        go_enter Try.func31, Try.ntmps31
        go_wp2
        go_ret
        exact ⟨rfl, HH.out⟩
      · rw [if_neg (by omega)] at hq
        simp at hq
        obtain ⟨rfl, rfl, rfl⟩ := hq
        have hto := slice_to l n n rfl (by omega)
        have hfr := slice_from l n n rfl (by omega)
        have HH := Hid.mk (h.goes (l' := l.drop n) (by rw [List.length_drop]; omega))
        clear h
        generalize List.take n l = out at *
        generalize List.drop n l = rest at *
        go_enter Try.func31, Try.ntmps31
        go_wp2
        go_ret
        exact ⟨rfl, HH.out⟩
  · rw [st_no hE] at hq
    simp only [Prod.mk.injEq] at hq
    obtain ⟨rfl, rfl, rfl⟩ := hq
    have HH := Hid.mk h
    have hne : ((E : Int) != 0) = true := by simp; omega
    clear h hE
    go_enter Try.func31, Try.ntmps31
    go_wp2
    go_ret
    exact ⟨rfl, HH.out, Keeps.refl _ _ _⟩

end Go.Proofs.Ytlghcnobgpocjaa
