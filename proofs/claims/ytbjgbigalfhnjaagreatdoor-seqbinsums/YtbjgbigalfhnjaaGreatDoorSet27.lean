/-
  The document's 10: its Reader.
  The document's bytes of rows, packs and sequences.
-/
import Derived.Test.YtbjgbigalfhnjaaGreatDoorWireRef
import Derived.Test.YtbjgbigalfhnjaaGreatDoorWireTake
import Derived.Test.YtbjgbigalfhnjaaGreatDoorSet12
import Derived.Test.YtbjgbigalfhnjaaGreatDoorSet05
import Derived.Test.YtbjgbigalfhnjaaGreatDoorSet18
import Derived.Test.YtbjgbigalfhnjaaGreatDoorSet21
namespace Go.Proofs.YtbjgbigalfhnjaaGreatDoor
open Go.RowKit

theorem slice_from (l : List UInt8) (t : Nat) (z : Int) (hz : z = t) (ht : t ≤ l.length) (w : World) : (Instr.slice 9 (.string (bs l)) (some (.int .i64 z)) none none).run Tryz.prog w = .ok (.string (bs (l.drop t))) w := by
  subst hz
  rw [run_slice_string_from_if w 9 (bs l) .i64 _ Tryz.underlying9, if_pos (by rw [bs_size]; omega)]
  rw [Int.toNat_natCast, bs_cut, bs_size, List.take_length]
theorem slice_to (l : List UInt8) (t : Nat) (z : Int) (hz : z = t) (ht : t ≤ l.length) (w : World) : (Instr.slice 9 (.string (bs l)) none (some (.int .i64 z)) none).run Tryz.prog w = .ok (.string (bs (l.take t))) w := by
  subst hz
  rw [run_slice_string_to_if w 9 (bs l) .i64 _ Tryz.underlying9, if_pos (by rw [bs_size]; omega)]
  rw [Int.toNat_natCast, bs_cut, List.drop_zero]
theorem slice_mid (l : List UInt8) (a n : Nat) (z y : Int) (hz : z = a) (hy : y = ((a + n : Nat) : Int)) (ht : a + n ≤ l.length) (w : World) : (Instr.slice 9 (.string (bs l)) (some (.int .i64 z)) (some (.int .i64 y)) none).run Tryz.prog w = .ok (.string (bs ((l.drop a).take n))) w := by
  subst hz hy
  rw [run_slice_string w 9 (bs l) .i64 .i64 _ _ Tryz.underlying9 (by omega) (by omega) (by rw [bs_size]; omega)]
  rw [Int.toNat_natCast, Int.toNat_natCast, bs_cut, List.drop_take, Nat.add_sub_cancel_left]

/-- An error, and nothing taken. -/
theorem XAt.err0 {w : World} {base x E E' : Nat} {l : List UInt8} (h : XAt w base x l E) : XAt (w.setCell ⟨x, 1, none⟩ (.int .i64 E')) base x (l.drop 0) E' ∧ KeepsT XT base w (w.setCell ⟨x, 1, none⟩ (.int .i64 E')) := h.errs
/-- The error is told, and t bytes are taken. -/
theorem XAt.both {w : World} {base x E E' t : Nat} {l : List UInt8} (h : XAt w base x l E) : XAt ((w.setCell ⟨x, 1, none⟩ (.int .i64 E')).setCell ⟨x, 0, none⟩ (.string (bs (l.drop t)))) base x (l.drop t) E' ∧ KeepsT XT base w ((w.setCell ⟨x, 1, none⟩ (.int .i64 E')).setCell ⟨x, 0, none⟩ (.string (bs (l.drop t)))) := by
  have h1 := h.errs (E' := E')
  have h2 := h1.1.goes (l' := l.drop t) (by rw [List.length_drop]; have := h.len; omega)
  exact ⟨h2.1, h1.2.trans h2.2⟩

set_option maxRecDepth 1000000 in
theorem ref_rupto (base x t er E v : Nat) (N : Int) (l : List UInt8) (w : World) (h : XAt w base x l E) (hN : -9223372036854775808 ≤ N ∧ N ≤ 9223372036854775807) (hq : st E 0 (bnd l N 8) = (v, t, er)) :
    Calls Tryz.prog 33 #[.pointer (some ⟨x, 0, none⟩), .int .i64 N] w fun e w' => e = .returned (.int .i64 v) ∧ XAt w' base x (l.drop t) er ∧ KeepsT XT base w w' := by
  obtain ⟨c0, c1, z0, z1⟩ := wcells2 h.mem
  by_cases hE : E = 0
  · subst hE
    rw [st_ok] at hq
    obtain ⟨v0, t0, er0, h0⟩ : ∃ v0 t0 er0, fst l = (v0, t0, er0) := ⟨_, _, _, rfl⟩
    have hf := fun w => ref_first v0 t0 er0 l h.len w h0
    have hok := fst_ok h0
    have hs := slice_from l t0 t0 rfl hok.1
    have HH := Hid.mk (And.intro (fun E' => h.err0 (E' := E')) (h.both (E' := 0) (t := t0)))
    unfold bnd at hq
    rw [h0] at hq
    simp only at hq
    have hv64 := hok.2.1
    clear h h0 hok
    by_cases e0 : er0 = 0
    · subst e0
      rw [if_neg (by simp)] at hq
      by_cases hN0 : N < 0
      · rw [if_pos (.inl hN0)] at hq
        simp at hq
        obtain ⟨rfl, rfl, rfl⟩ := hq
        go_enter Tryz.func33, Tryz.ntmps33
        go_wp2_with (go_at_call 64; refine (hf _).mono ?_; rintro e w' ⟨rfl, hw'⟩; subst w')
        go_ret
        exact ⟨rfl, HH.out.1 8⟩
      · by_cases hNv : N < (v0 : Int)
        · rw [if_pos (.inr hNv)] at hq
          simp at hq
          obtain ⟨rfl, rfl, rfl⟩ := hq
          go_enter Tryz.func33, Tryz.ntmps33
          go_wp2_with (go_at_call 64; refine (hf _).mono ?_; rintro e w' ⟨rfl, hw'⟩; subst w')
          go_ret
          exact ⟨rfl, HH.out.1 8⟩
        · rw [if_neg (by omega)] at hq
          simp at hq
          obtain ⟨rfl, rfl, rfl⟩ := hq
          go_enter Tryz.func33, Tryz.ntmps33
          go_wp2_with (go_at_call 64; refine (hf _).mono ?_; rintro e w' ⟨rfl, hw'⟩; subst w')
          go_ret
          exact ⟨rfl, HH.out.2⟩
    · rw [if_pos e0] at hq
      simp at hq
      obtain ⟨rfl, rfl, rfl⟩ := hq
      have hne : ((er0 : Int) != 0) = true := by simp; omega
      have hne2 : ((er0 : Int) == 0) = false := by simp; omega
      go_enter Tryz.func33, Tryz.ntmps33
      go_wp2_with (go_at_call 64; refine (hf _).mono ?_; rintro e w' ⟨rfl, hw'⟩; subst w')
      go_ret
      exact ⟨rfl, HH.out.1 er0⟩
  · rw [st_no hE] at hq
    simp only [Prod.mk.injEq] at hq
    obtain ⟨rfl, rfl, rfl⟩ := hq
    have HH := Hid.mk h
    have hne : ((E : Int) != 0) = true := by simp; omega
    clear h hE
    go_enter Tryz.func33, Tryz.ntmps33
    go_wp2
    go_ret
    exact ⟨rfl, HH.out, KeepsT.refl _ _ _⟩

set_option maxRecDepth 1000000 in
theorem ref_rraw (base x t er E : Nat) (N : Int) (v l : List UInt8) (w : World) (h : XAt w base x l E) (hN : -9223372036854775808 ≤ N ∧ N ≤ 9223372036854775807) (hq : st E [] (rdR l N) = (v, t, er)) :
    Calls Tryz.prog 65 #[.pointer (some ⟨x, 0, none⟩), .int .i64 N] w fun e w' => e = .returned (.string (bs v)) ∧ XAt w' base x (l.drop t) er ∧ KeepsT XT base w w' := by
  obtain ⟨c0, c1, z0, z1⟩ := wcells2 h.mem
  have hlen := h.len
  have hsz : (bs l).size = l.length := bs_size l
  by_cases hE : E = 0
  · subst hE
    rw [st_ok] at hq
    unfold rdR at hq
    by_cases hN0 : N < 0
    · rw [if_pos hN0] at hq
      simp at hq
      obtain ⟨rfl, rfl, rfl⟩ := hq
      have HH := Hid.mk (h.err0 (E' := 1))
      clear h
      go_enter Tryz.func65, Tryz.ntmps65
      go_wp2
      go_ret
      exact ⟨rfl, HH.out⟩
    · rw [if_neg hN0] at hq
      obtain ⟨n, rfl⟩ := Int.eq_ofNat_of_zero_le (show 0 ≤ N by omega)
      rw [Int.toNat_natCast] at hq
      unfold cutR at hq
      by_cases hs : l.length < n
      · rw [if_pos (by omega)] at hq
        simp at hq
        obtain ⟨rfl, rfl, rfl⟩ := hq
        have HH := Hid.mk (h.err0 (E' := 2))
        clear h
        go_enter Tryz.func65, Tryz.ntmps65
        go_wp2
        go_ret
        exact ⟨rfl, HH.out⟩
      · rw [if_neg (by omega)] at hq
        simp at hq
        obtain ⟨rfl, rfl, rfl⟩ := hq
        have hto := slice_to l n n rfl (by omega)
        have hfr := slice_from l n n rfl (by omega)
        have HH := Hid.mk (h.goes (l' := l.drop n) (by rw [List.length_drop]; omega))
        clear h
        generalize List.take n l = out at *
        generalize List.drop n l = rest at *
        go_enter Tryz.func65, Tryz.ntmps65
        go_wp2
        go_ret
        exact ⟨rfl, HH.out⟩
  · rw [st_no hE] at hq
    simp only [Prod.mk.injEq] at hq
    obtain ⟨rfl, rfl, rfl⟩ := hq
    have HH := Hid.mk h
    have hne : ((E : Int) != 0) = true := by simp; omega
    clear h hE
    go_enter Tryz.func65, Tryz.ntmps65
    go_wp2
    go_ret
    exact ⟨rfl, HH.out, KeepsT.refl _ _ _⟩

end Go.Proofs.YtbjgbigalfhnjaaGreatDoor

namespace Go.Proofs.YtbjgbigalfhnjaaGreatDoor
open Go.RowKit

theorem rby_take (V n k : Nat) (h : k < nby n) : (rby V n).take (k + 1) = (rby V n).take k ++ [UInt8.ofNat (V / 256 ^ k % 256)] := by
  rw [List.take_add_one]
  congr 1
  unfold rby
  rw [List.getElem?_map, List.getElem?_range h]
  rfl
theorem add_sum (l m : List UInt8) (h : l.length + m.length ≤ 1000000000) (w : World) : (Op.stringOp .add (bs l) (bs m)).run Tryz.prog w = .ok (.string (bs (l ++ m))) w := by
  rw [run_string_add_sum w _ _ (by rw [bs_size, bs_size]; omega), bs_append]

set_option maxHeartbeats 800000 in
set_option maxRecDepth 1000000 in
theorem rsb_row (v : Value) (n V : Nat) (w : World) (h : BRd w v n V) (hV : V < 2 ^ n) (hn : n ≤ 1000000) :
    Calls Tryz.prog 30 #[v] w fun e w' => e = .returned (.string (bs (rby V n))) ∧ More w w' := by
  have hcut := fun (w' : World) (hm : More w w') (k : Nat) (hk : k ≤ 1000000) => ref_cut v n V ((k * 8 : Nat) : Int) 8 w' (h.more hm) hV (by omega) (by omega) (by omega)
  obtain ⟨ao, cap, rfl⟩ := h.shape
  have hrl := rby_len V n
  obtain ⟨L, hL⟩ : ∃ L, rby V n = L := ⟨_, rfl⟩
  have hnx := fun k h => rby_take V n k h
  rw [hL] at hrl hnx ⊢
  obtain ⟨K, hK⟩ : ∃ K, nby n = K := ⟨_, rfl⟩
  rw [hK] at hrl hnx
  have hKn : ∀ k, k < K ↔ 8 * k < n := fun k => by rw [← hK, nby_is]; omega
  have HH := Hid.mk (And.intro hrl hKn)
  have hKb : K ≤ 125001 := by rw [← hK, nby_is]; omega
  clear h hV hL hK hrl
  go_enter Tryz.func30, Tryz.ntmps30
  go_wp2
  go_loopw [3, 4] (fun o i wr => ∃ k : Nat, k ≤ K ∧ i = .int .i64 ((k : Int) * 8) ∧ o = .string (bs (L.take k)) ∧ Hid (More w wr)) (fun _ i _ => n + 8 - (intOf i).toNat)
  case atStart => exact ⟨0, Nat.zero_le _, by simp, by simp [bs], Hid.mk (Below.refl _ _)⟩
  case round =>
    obtain ⟨k, hk, rfl, rfl, HR⟩ := hrel
    by_cases hkK : k < K
    · have hc := hcut wr HR.out k (by omega)
      have h8 : 8 * k < n := (HH.out.2 k).1 hkK
      have h8' : (k : Int) * 8 < (n : Int) := by omega
      have hw8 : IntKind.i64.wrap ((k : Int) * 8 + 8) = (k : Int) * 8 + 8 := by rw [IntKind.wrap_i64]; omega
      rw [show min 64 (8 : Int).toNat = 8 by decide, show cutV V ((k * 8 : Nat) : Int) 8 = V / 256 ^ k % 256 by unfold cutV; rw [if_neg (by omega), Int.toNat_natCast, Nat.mul_comm k 8, Nat.pow_mul], Int.natCast_mul] at hc
      have hXb : V / 256 ^ k % 256 < 256 := Nat.mod_lt _ (by decide)
      have hnk := hnx k hkK
      obtain ⟨X, hX⟩ : ∃ X, V / 256 ^ k % 256 = X := ⟨_, rfl⟩
      rw [hX] at hc hXb hnk
      have hwX : IntKind.u8.wrap (X : Int) = X := by rw [IntKind.wrap_u8]; omega
      have hcv := fun w g h => conv_one X hXb w g h
      have hadd := fun w => add_sum (L.take k) [UInt8.ofNat X] (by rw [List.length_take]; simp; omega) w
      rw [← hnk] at hadd
      generalize UInt8.ofNat X = y at *
      generalize L.take k = z at *
      obtain ⟨z1, hz1⟩ : ∃ z1, L.take (k + 1) = z1 := ⟨_, rfl⟩
      rw [hz1] at hadd
      have HZ := Hid.mk hz1
      clear hnx hcut hX hnk hz1
      go_wp2_with (go_at_call 37; refine hc.mono ?_; rintro e w' ⟨rfl, hw⟩; subst w')
      refine ⟨⟨k + 1, by omega, by simp; omega, by rw [HZ.out], Hid.mk (More.trans HR.out (More.alloc _ _))⟩, by simp [intOf]; omega⟩
    · obtain rfl : k = K := by omega
      have h8 : ¬ 8 * k < n := fun h => hkK ((HH.out.2 k).2 h)
      have h8' : ¬ (k : Int) * 8 < (n : Int) := by omega
      have hall : L.take k = L := List.take_of_length_le (by rw [HH.out.1]; exact Nat.le_refl _)
      rw [hall]
      clear hnx hcut hall
      go_wp2
      go_ret
      exact ⟨rfl, HR.out⟩

set_option maxRecDepth 1000000 in
theorem rsb_upper (x d : Nat) (hx : x ≤ 1099511627776) (hd : d ≤ 64) (w : World) : Calls Tryz.prog 36 #[.int .i64 x, .int .i64 d] w fun e w' => e = .returned (.int .i64 (x / 2 ^ d : Nat)) ∧ w' = w := by
  obtain ⟨Q, hQ⟩ : ∃ Q, x / 2 ^ d = Q := ⟨_, rfl⟩
  rw [hQ]
  have HQ := Hid.mk hQ
  clear hQ
  go_enter Tryz.func36, Tryz.ntmps36
  go_wp2
  go_loop [0, 5] (fun a i => ∃ k X : Nat, k ≤ d ∧ i = .int .i64 k ∧ a = .int .i64 X ∧ X ≤ 1099511627776 ∧ Hid (X = x / 2 ^ k)) (fun _ i => d - (intOf i).toNat)
  case atStart => exact ⟨0, x, Nat.zero_le _, rfl, rfl, hx, Hid.mk (by simp)⟩
  case round =>
    obtain ⟨k, X, hk, rfl, rfl, hX, HX⟩ := hrel
    by_cases hkd : k < d
    · obtain ⟨Y, hY⟩ : ∃ Y, X / 2 = Y := ⟨_, rfl⟩
      have e1 : (X : Int) / 2 = Y := by omega
      have HY := Hid.mk hY
      have hYb : Y ≤ 1099511627776 := by omega
      clear hY
      go_wp2
      refine ⟨⟨k + 1, Y, by omega, by go_num, rfl, hYb, Hid.mk ?_⟩, by simp [intOf]; omega⟩
      rw [Nat.pow_succ, ← Nat.div_div_eq_div_mul, ← HX.out, HY.out]
    · obtain rfl : k = d := by omega
      obtain rfl : X = Q := by rw [HX.out, HQ.out]
      go_wp2
      go_ret
      exact ⟨rfl, rfl⟩

/-- Add of bits that are cut. -/
theorem ref_add_cut (base n V x N : Nat) (v : Value) (w : World) (hown : w.ownsRow base 4 1 v n (bools V n)) (hV : V < 2 ^ n) (hx : x < 18446744073709551616) (hn : n ≤ 1099511627776) (hN : N ≤ 64) :
    Calls Tryz.prog 63 #[v, .int .u64 x, .int .i64 N] w fun e w' => ∃ v', e = .returned v' ∧ w'.ownsRow w.heap.size 4 1 v' (n + N) (bools (cat V n (x % 2 ^ N)) (n + N)) ∧ More w w' := by
  have := ref_add base n V x N v w hown hV hx hn hN
  rw [bools_congr (U := cat V n (x % 2 ^ N)) (fun i hi => by
    rw [cat_bit x hV, cat_bit _ hV]
    by_cases h : i < n
    · rw [if_pos h, if_pos h]
    · rw [if_neg h, if_neg h, Nat.testBit_mod_two_pow]
      simp; omega)] at this
  exact this

set_option maxHeartbeats 800000 in
set_option maxRecDepth 1000000 in
/-- The same bits are the same. -/
theorem rsb_same (a b : Value) (n V : Nat) (w : World) (h : BRd w a n V) (h' : BRd w b n V) (hn : n ≤ 1099511627776) :
    Calls Tryz.prog 39 #[a, b] w fun e w' => e = .returned (.bool true) ∧ ∃ m, w' = w.drewN m := by
  by_cases h0 : n = 0
  · obtain ⟨ao, cap, rfl⟩ := h.shape
    obtain ⟨ao', cap', rfl⟩ := h'.shape
    subst h0
    clear h h'
    go_enter Tryz.func39, Tryz.ntmps39
    go_wp2
    refine wp_loop_rounds 1 ?_; rw [rounds_succ]; go_wp2
    go_ret
    exact ⟨rfl, 0, rfl⟩
  · obtain ⟨g, cap, rfl, hc⟩ : ∃ g cap, a = .slice (some ⟨g, 0, none⟩) n cap ∧ ∀ j, j < n → w.cell? ⟨g, j, none⟩ = some (.bool (V.testBit j)) := by
      rcases h with ⟨rfl, _⟩ | h
      · omega
      · exact h
    obtain ⟨g', cap', rfl, hc'⟩ : ∃ g cap, b = .slice (some ⟨g, 0, none⟩) n cap ∧ ∀ j, j < n → w.cell? ⟨g, j, none⟩ = some (.bool (V.testBit j)) := by
      rcases h' with ⟨rfl, _⟩ | h
      · omega
      · exact h
    have HC := Hid.mk (And.intro hc hc')
    clear h h' hc hc'
    go_enter Tryz.func39, Tryz.ntmps39
    go_wp2
    go_loopw [5] (fun i wr => ∃ k : Nat, k ≤ n ∧ i = .int .i64 k ∧ (∃ m, wr = w.drewN m)) (fun i _ => n - (intOf i).toNat)
    case atStart => exact ⟨0, Nat.zero_le _, rfl, ⟨0, rfl⟩⟩
    case round =>
      obtain ⟨k, hk, rfl, ⟨m, rfl⟩⟩ := hrel
      by_cases hkK : k < n
      · have hck := HC.out.1 k hkK
        have hck' := HC.out.2 k hkK
        generalize V.testBit k = y at *
        go_wp2_with fail
        go_quiet (fail)
        cases y
        all_goals
          go_wp2
          exact ⟨⟨k + 1, by omega, by go_num, ⟨_, rfl⟩⟩, by simp [intOf]; omega⟩
      · go_wp2
        go_ret
        exact ⟨rfl, m, rfl⟩

end Go.Proofs.YtbjgbigalfhnjaaGreatDoor
