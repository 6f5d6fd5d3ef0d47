/-
  The document's 10: its Reader.
-/
import Derived.Test.YtbjgbigalfhnjaaGreatDoorWireRef
import Derived.Test.YtbjgbigalfhnjaaGreatDoorWireTake
namespace Go.Proofs.YtbjgbigalfhnjaaGreatDoor
open Go.RowKit

theorem slice_from (l : List UInt8) (t : Nat) (z : Int) (hz : z = t) (ht : t ≤ l.length) (w : World) : (Instr.slice 9 (.string (bs l)) (some (.int .i64 z)) none none).run Tryz.prog w = .ok (.string (bs (l.drop t))) w := by
  subst hz
  rw [run_slice_string_from_if w 9 (bs l) .i64 _ Tryz.underlying9, if_pos (by rw [bs_size]; omega)]
  rw [Int.toNat_natCast, bs_cut, bs_size, List.take_length]
theorem slice_to (l : List UInt8) (t : Nat) (z : Int) (hz : z = t) (ht : t ≤ l.length) (w : World) : (Instr.slice 9 (.string (bs l)) none (some (.int .i64 z)) none).run Tryz.prog w = .ok (.string (bs (l.take t))) w := by
  subst hz
  rw [run_slice_string_to_if w 9 (bs l) .i64 _ Tryz.underlying9, if_pos (by rw [bs_size]; omega)]
  rw [Int.toNat_natCast, bs_cut, List.drop_zero]
theorem slice_mid (l : List UInt8) (a n : Nat) (z y : Int) (hz : z = a) (hy : y = ((a + n : Nat) : Int)) (ht : a + n ≤ l.length) (w : World) : (Instr.slice 9 (.string (bs l)) (some (.int .i64 z)) (some (.int .i64 y)) none).run Tryz.prog w = .ok (.string (bs ((l.drop a).take n))) w := by
  subst hz hy
  rw [run_slice_string w 9 (bs l) .i64 .i64 _ _ Tryz.underlying9 (by omega) (by omega) (by rw [bs_size]; omega)]
  rw [Int.toNat_natCast, Int.toNat_natCast, bs_cut, List.drop_take, Nat.add_sub_cancel_left]

/-- An error, and nothing taken. -/
theorem XAt.err0 {w : World} {base x E E' : Nat} {l : List UInt8} (h : XAt w base x l E) : XAt (w.setCell ⟨x, 1, none⟩ (.int .i64 E')) base x (l.drop 0) E' ∧ KeepsT XT base w (w.setCell ⟨x, 1, none⟩ (.int .i64 E')) := h.errs
/-- The error is told, and t bytes are taken. -/
theorem XAt.both {w : World} {base x E E' t : Nat} {l : List UInt8} (h : XAt w base x l E) : XAt ((w.setCell ⟨x, 1, none⟩ (.int .i64 E')).setCell ⟨x, 0, none⟩ (.string (bs (l.drop t)))) base x (l.drop t) E' ∧ KeepsT XT base w ((w.setCell ⟨x, 1, none⟩ (.int .i64 E')).setCell ⟨x, 0, none⟩ (.string (bs (l.drop t)))) := by
  have h1 := h.errs (E' := E')
  have h2 := h1.1.goes (l' := l.drop t) (by rw [List.length_drop]; have := h.len; omega)
  exact ⟨h2.1, h1.2.trans h2.2⟩

set_option maxRecDepth 1000000 in
theorem ref_rupto (base x t er E v : Nat) (N : Int) (l : List UInt8) (w : World) (h : XAt w base x l E) (hN : -9223372036854775808 ≤ N ∧ N ≤ 9223372036854775807) (hq : st E 0 (bnd l N 8) = (v, t, er)) :
    Calls Tryz.prog 33 #[.pointer (some ⟨x, 0, none⟩), .int .i64 N] w fun e w' => e = .returned (.int .i64 v) ∧ XAt w' base x (l.drop t) er ∧ KeepsT XT base w w' := by
  obtain ⟨c0, c1, z0, z1⟩ := wcells2 h.mem
  by_cases hE : E = 0
  · subst hE
    rw [st_ok] at hq
    obtain ⟨v0, t0, er0, h0⟩ : ∃ v0 t0 er0, fst l = (v0, t0, er0) := ⟨_, _, _, rfl⟩
    have hf := fun w => ref_first v0 t0 er0 l h.len w h0
    have hok := fst_ok h0
    have hs := slice_from l t0 t0 rfl hok.1
    have HH := Hid.mk (And.intro (fun E' => h.err0 (E' := E')) (h.both (E' := 0) (t := t0)))
    unfold bnd at hq
    rw [h0] at hq
    simp only at hq
    have hv64 := hok.2.1
    clear h h0 hok
    by_cases e0 : er0 = 0
    · subst e0
      rw [if_neg (by simp)] at hq
      by_cases hN0 : N < 0
      · rw [if_pos (.inl hN0)] at hq
        simp at hq
        obtain ⟨rfl, rfl, rfl⟩ := hq
        go_enter Tryz.func33, Tryz.ntmps33
        go_wp2_with (go_at_call 64; refine (hf _).mono ?_; rintro e w' ⟨rfl, hw'⟩; subst w')
        go_ret
        exact ⟨rfl, HH.out.1 8⟩
      · by_cases hNv : N < (v0 : Int)
        · rw [if_pos (.inr hNv)] at hq
          simp at hq
          obtain ⟨rfl, rfl, rfl⟩ := hq
          go_enter Tryz.func33, Tryz.ntmps33
          go_wp2_with (go_at_call 64; refine (hf _).mono ?_; rintro e w' ⟨rfl, hw'⟩; subst w')
          go_ret
          exact ⟨rfl, HH.out.1 8⟩
        · rw [if_neg (by omega)] at hq
          simp at hq
          obtain ⟨rfl, rfl, rfl⟩ := hq
          go_enter Tryz.func33, Tryz.ntmps33
          go_wp2_with (go_at_call 64; refine (hf _).mono ?_; rintro e w' ⟨rfl, hw'⟩; subst w')
          go_ret
          exact ⟨rfl, HH.out.2⟩
    · rw [if_pos e0] at hq
      simp at hq
      obtain ⟨rfl, rfl, rfl⟩ := hq
      have hne : ((er0 : Int) != 0) = true := by simp; omega
      have hne2 : ((er0 : Int) == 0) = false := by simp; omega
      go_enter Tryz.func33, Tryz.ntmps33
      go_wp2_with (go_at_call 64; refine (hf _).mono ?_; rintro e w' ⟨rfl, hw'⟩; subst w')
      go_ret
      exact ⟨rfl, HH.out.1 er0⟩
  · rw [st_no hE] at hq
    simp only [Prod.mk.injEq] at hq
    obtain ⟨rfl, rfl, rfl⟩ := hq
    have HH := Hid.mk h
    have hne : ((E : Int) != 0) = true := by simp; omega
    clear h hE
    go_enter Tryz.func33, Tryz.ntmps33
    go_wp2
    go_ret
    exact ⟨rfl, HH.out, KeepsT.refl _ _ _⟩

set_option maxRecDepth 1000000 in
theorem ref_rraw (base x t er E : Nat) (N : Int) (v l : List UInt8) (w : World) (h : XAt w base x l E) (hN : -9223372036854775808 ≤ N ∧ N ≤ 9223372036854775807) (hq : st E [] (rdR l N) = (v, t, er)) :
    Calls Tryz.prog 65 #[.pointer (some ⟨x, 0, none⟩), .int .i64 N] w fun e w' => e = .returned (.string (bs v)) ∧ XAt w' base x (l.drop t) er ∧ KeepsT XT base w w' := by
  obtain ⟨c0, c1, z0, z1⟩ := wcells2 h.mem
  have hlen := h.len
  have hsz : (bs l).size = l.length := bs_size l
  by_cases hE : E = 0
  · subst hE
    rw [st_ok] at hq
    unfold rdR at hq
    by_cases hN0 : N < 0
    · rw [if_pos hN0] at hq
      simp at hq
      obtain ⟨rfl, rfl, rfl⟩ := hq
      have HH := Hid.mk (h.err0 (E' := 1))
      clear h
      go_enter Tryz.func65, Tryz.ntmps65
      go_wp2
      go_ret
      exact ⟨rfl, HH.out⟩
    · rw [if_neg hN0] at hq
      obtain ⟨n, rfl⟩ := Int.eq_ofNat_of_zero_le (show 0 ≤ N by omega)
      rw [Int.toNat_natCast] at hq
      unfold cutR at hq
      by_cases hs : l.length < n
      · rw [if_pos (by omega)] at hq
        simp at hq
        obtain ⟨rfl, rfl, rfl⟩ := hq
        have HH := Hid.mk (h.err0 (E' := 2))
        clear h
        go_enter Tryz.func65, Tryz.ntmps65
        go_wp2
        go_ret
        exact ⟨rfl, HH.out⟩
      · rw [if_neg (by omega)] at hq
        simp at hq
        obtain ⟨rfl, rfl, rfl⟩ := hq
        have hto := slice_to l n n rfl (by omega)
        have hfr := slice_from l n n rfl (by omega)
        have HH := Hid.mk (h.goes (l' := l.drop n) (by rw [List.length_drop]; omega))
        clear h
        generalize List.take n l = out at *
        generalize List.drop n l = rest at *
        go_enter Tryz.func65, Tryz.ntmps65
        go_wp2
        go_ret
        exact ⟨rfl, HH.out⟩
  · rw [st_no hE] at hq
    simp only [Prod.mk.injEq] at hq
    obtain ⟨rfl, rfl, rfl⟩ := hq
    have HH := Hid.mk h
    have hne : ((E : Int) != 0) = true := by simp; omega
    clear h hE
    go_enter Tryz.func65, Tryz.ntmps65
    go_wp2
    go_ret
    exact ⟨rfl, HH.out, KeepsT.refl _ _ _⟩

end Go.Proofs.YtbjgbigalfhnjaaGreatDoor
