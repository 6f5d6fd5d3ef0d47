/-
  elias: Len, At, Last, told, and how many numbers are below another one; of nil too.
-/
import Derived.Test.YtbjgbigalfhnjaaGreatDoorSet12
import Derived.Deep.RegionHeld
namespace Go.Proofs.YtbjgbigalfhnjaaGreatDoor
open Go.RowKit

/-- The two parts of a sequence, as they are read in any later world. -/
structure SeqRd (w : World) (base s p d : Nat) (f : Nat → Nat) (n : Nat) : Prop where
  c0 : w.cell? ⟨s, 0, none⟩ = some (.pointer (some ⟨p, 0, none⟩))
  c1 : w.cell? ⟨s, 1, none⟩ = some (.pointer (some ⟨d, 0, none⟩))
  pk : PackAt w base p (packV (wdt f n) (fun i => f i % 2 ^ wdt f n) n) (wdt f n) n
  dr : SDirAt w base d (hV f (wdt f n) n) (hN f (wdt f n) n)
theorem SeqAt.rd {w : World} {base s : Nat} {f : Nat → Nat} {n : Nat} (h : SeqAt w base s f n) : ∃ p d, SeqRd w base s p d f n := by
  obtain ⟨p, d, hs, hp, hd⟩ := h.mem
  obtain ⟨c0, c1, _⟩ := cells2 hs
  exact ⟨p, d, c0, c1, hp, hd⟩
theorem SeqRd.more {w w' : World} {base s p d : Nat} {f : Nat → Nat} {n : Nat} (h : SeqRd w base s p d f n) (k : More w w') : SeqRd w' base s p d f n := by
  have hb := World.block_lt_of_cell? w _ h.c0
  exact ⟨(k.cell (p := ⟨s, 0, none⟩) hb).trans h.c0, (k.cell (p := ⟨s, 1, none⟩) hb).trans h.c1, h.pk.more k, h.dr.more k⟩

theorem el_len (base s : Nat) (f : Nat → Nat) (n : Nat) (w : World) (h : SeqAt w base s f n) :
    Calls Tryz.prog 22 #[.pointer (some ⟨s, 0, none⟩)] w fun e w' => e = .returned (.int .i64 n) ∧ w' = w := by
  obtain ⟨p, d, hr⟩ := h.rd
  have c0 := hr.c0
  have hl := pack_len p _ _ n w hr.pk.rd
  clear h hr
  go_enter Tryz.func22, Tryz.ntmps22
  go_wp2_with (go_at_call 46; refine hl.mono ?_; rintro e w' ⟨rfl, hw⟩; subst w')
  go_ret
  exact ⟨rfl, rfl⟩
theorem eln_len (w : World) : Calls Tryz.prog 22 #[.pointer none] w fun e w' => e = .returned (.int .i64 0) ∧ w' = w := by
  go_enter Tryz.func22, Tryz.ntmps22
  go_wp2
  go_ret
  exact ⟨rfl, rfl⟩

theorem i64_or_nat (a b : Nat) (ha : a < 9223372036854775808) (hb : b < 9223372036854775808) : bits .or .i64 (a : Int) (b : Int) = ((a ||| b : Nat) : Int) := by
  have hor : a ||| b < 9223372036854775808 := Nat.or_lt_two_pow (n := 63) ha hb
  have key : (BitVec.ofInt 64 (a : Int) ||| BitVec.ofInt 64 (b : Int)).toNat = a ||| b := by
    rw [BitVec.toNat_or, BitVec.toNat_ofInt, BitVec.toNat_ofInt]
    have e1 : ((a : Int) % ((2 ^ 64 : Nat) : Int)).toNat = a := by omega
    have e2 : ((b : Int) % ((2 ^ 64 : Nat) : Int)).toNat = b := by omega
    rw [e1, e2]
  show IntKind.i64.wrap ((BitVec.ofInt 64 (a : Int) ||| BitVec.ofInt 64 (b : Int)).toNat : Nat) = _
  rw [key, IntKind.wrap_i64]
  omega

/-- A number is put together of its high part and its low bits. -/
theorem joined (x i D P : Nat) (hx : x ≤ 1099511627776) (hP : P = x / 2 ^ D + i) :
    bits .or .i64 (wrap64 (wrap64 ((P : Int) - (i : Int)) * 2 ^ D)) (wrap64 ((x % 2 ^ D : Nat) : Int)) = (x : Int) := by
  have hm := Nat.mod_lt x (Nat.two_pow_pos D)
  have he := Nat.div_add_mod x (2 ^ D)
  have hle := Nat.div_le_self x (2 ^ D)
  have h2 : ((x / 2 ^ D : Nat) : Int) * 2 ^ D = ((2 ^ D * (x / 2 ^ D) : Nat) : Int) := by rw [Int.natCast_mul, Int.natCast_pow, Int.mul_comm]; rfl
  have hor : 2 ^ D * (x / 2 ^ D) ||| x % 2 ^ D = x := by rw [← Nat.two_pow_add_eq_or_of_lt hm]; exact he
  have h1 : wrap64 ((P : Int) - (i : Int)) = ((x / 2 ^ D : Nat) : Int) := by
    clear hor h2 he hm
    generalize x / 2 ^ D = q at *
    unfold wrap64; omega
  rw [h1, h2]
  clear h1 h2 hle hP hm
  generalize 2 ^ D * (x / 2 ^ D) = a at *
  generalize x % 2 ^ D = b at *
  have h3 : wrap64 (a : Int) = a := by unfold wrap64; omega
  have h4 : wrap64 (b : Int) = b := by unfold wrap64; omega
  have ha : a < 9223372036854775808 := by omega
  have hb : b < 9223372036854775808 := by omega
  rw [h3, h4, i64_or_nat a b ha hb, hor]

theorem el_number (base s i : Nat) (f : Nat → Nat) (n : Nat) (w : World) (h : SeqAt w base s f n) (hi : i < n) :
    Calls Tryz.prog 59 #[.pointer (some ⟨s, 0, none⟩), .int .i64 i, .int .i64 (hp f (wdt f n) i : Nat)] w fun e w' => e = .returned (.int .i64 (f i : Nat)) ∧ ∃ m, w' = w.drewN m := by
  obtain ⟨p, d, hr⟩ := h.rd
  have c0 := hr.c0
  have hw := fun m => pack_width p _ _ n (w.drewN m) (hr.pk.rd.drewN m)
  have ha := fun m => pack_at p _ _ n i (w.drewN m) (hr.pk.rd.drewN m)
  rw [atV_pack _ _ _ _ (fun j _ => Nat.mod_lt _ (Nat.two_pow_pos _)) hi] at ha
  have hd := wdt_le h.climbs
  have hn := h.num
  have htop := h.climbs.top i hi
  obtain ⟨D, hD⟩ : ∃ D, wdt f n = D := ⟨_, rfl⟩
  rw [hD] at hw ha hd ⊢
  obtain ⟨P, hP⟩ : ∃ P, hp f D i = P := ⟨_, rfl⟩
  have hj := joined (f i) i D P htop hP.symm
  obtain ⟨X, hX⟩ : ∃ X, f i % 2 ^ D = X := ⟨_, rfl⟩
  rw [hX] at ha hj
  rw [hP]
  have HJ := Hid.mk hj
  clear h hr hj hX hP hD
  go_enter Tryz.func59, Tryz.ntmps59
  go_wp2
  go_quiet (first | (go_at_call 45; exact Calls.quiet_of_same (hw _)) | (go_at_call 85; exact Calls.quiet_of (ha _)))
  go_wp2
  go_ret
  exact ⟨by rw [HJ.out]; rfl, _, rfl⟩

theorem el_at (base s : Nat) (f : Nat → Nat) (n : Nat) (i : Int) (w : World) (h : SeqAt w base s f n) :
    Calls Tryz.prog 23 #[.pointer (some ⟨s, 0, none⟩), .int .i64 i] w fun e w' => e = .returned (.int .i64 (atZ f n i)) ∧ More w w' := by
  have hl := el_len base s f n w h
  by_cases h0 : i < 0
  · rw [atZ_out f n i (by omega)]
    clear h hl
    go_enter Tryz.func23, Tryz.ntmps23
    go_wp2
    go_ret
    exact ⟨rfl, Below.refl _ _⟩
  obtain ⟨i, rfl⟩ := Int.eq_ofNat_of_zero_le (show 0 ≤ i by omega)
  by_cases h1 : i < n
  · rw [atZ_in f n i h1]
    obtain ⟨p, d, hr⟩ := h.rd
    have c1 := hr.c1
    have ho := sdir_one d _ _ i base w hr.dr
    rw [sel_hp h.climbs _ h1] at ho
    have hnum := fun w1 (hm : More w w1) => el_number base s i f n w1 (h.more hm) h1
    generalize hp f (wdt f n) i = P at *
    clear h hr h0
    go_enter Tryz.func23, Tryz.ntmps23
    go_wp2_with (first
      | (go_at_call 22; refine hl.mono ?_; rintro e w' ⟨rfl, hw⟩; subst w'; clear hl)
      | (go_at_call 60; refine ho.mono ?_; rintro e w1 ⟨rfl, hm⟩; have H1 := Hid.mk hm; clear hm ho)
      | (go_at_call 59; refine (hnum _ H1.out).mono ?_; rintro e w2 ⟨rfl, m, hw⟩; subst w2))
    go_ret
    exact ⟨rfl, More.trans H1.out (More.drewN _ _)⟩
  · rw [atZ_out f n i (by omega)]
    clear h h0
    go_enter Tryz.func23, Tryz.ntmps23
    go_wp2_with (go_at_call 22; refine hl.mono ?_; rintro e w' ⟨rfl, hw⟩; subst w')
    go_ret
    exact ⟨rfl, Below.refl _ _⟩
theorem eln_at (i : Int) (w : World) : Calls Tryz.prog 23 #[.pointer none, .int .i64 i] w fun e w' => e = .returned (.int .i64 (-1)) ∧ w' = w := by
  rcases (show i < 0 ∨ (¬ i < 0 ∧ 0 ≤ i) by omega) with h | ⟨h, h2⟩
  all_goals
    go_enter Tryz.func23, Tryz.ntmps23
    go_wp2_with (go_at_call 22; refine (eln_len _).mono ?_; rintro e w' ⟨rfl, hw⟩; subst w')
    go_ret
    exact ⟨rfl, rfl⟩

theorem el_last (base s : Nat) (f : Nat → Nat) (n : Nat) (w : World) (h : SeqAt w base s f n) :
    Calls Tryz.prog 24 #[.pointer (some ⟨s, 0, none⟩)] w fun e w' => e = .returned (.int .i64 (atZ f n ((n : Int) - 1))) ∧ More w w' := by
  have hl := el_len base s f n w h
  have ha := el_at base s f n ((n : Int) - 1) w h
  have hn := h.num
  generalize atZ f n ((n : Int) - 1) = Z at *
  clear h
  go_enter Tryz.func24, Tryz.ntmps24
  go_wp2_with (first
    | (go_at_call 22; refine hl.mono ?_; rintro e w' ⟨rfl, hw⟩; subst w'; clear hl)
    | (go_at_call 23; refine ha.mono ?_; rintro e w1 ⟨rfl, hm⟩; have H1 := Hid.mk hm; clear hm ha))
  go_ret
  exact ⟨rfl, H1.out⟩
theorem eln_last (w : World) : Calls Tryz.prog 24 #[.pointer none] w fun e w' => e = .returned (.int .i64 (-1)) ∧ w' = w := by
  have ha := eln_at (-1) w
  go_enter Tryz.func24, Tryz.ntmps24
  go_wp2_with (first
    | (go_at_call 22; refine (eln_len _).mono ?_; rintro e w' ⟨rfl, hw⟩; subst w')
    | (go_at_call 23; refine ha.mono ?_; rintro e w' ⟨rfl, hw⟩; subst w'))
  go_ret
  exact ⟨rfl, rfl⟩

end Go.Proofs.YtbjgbigalfhnjaaGreatDoor
