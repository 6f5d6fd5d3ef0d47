/-
  The document's bytes of rows, packs and sequences.
  The document's bits of a sequence, and the bytes of sequences and packs.
-/
import Derived.Test.YtbjgbigalfhnjaaGreatDoorSet12
import Derived.Test.YtbjgbigalfhnjaaGreatDoorWireRef
import Derived.Test.YtbjgbigalfhnjaaGreatDoorWireRefR
import Derived.Test.YtbjgbigalfhnjaaGreatDoorSet05
import Derived.Test.YtbjgbigalfhnjaaGreatDoorSet17
import Derived.Test.YtbjgbigalfhnjaaGreatDoorPackRef
import Derived.Deep.RegionHeld
namespace Go.Proofs.YtbjgbigalfhnjaaGreatDoor
open Go.RowKit

theorem rby_take (V n k : Nat) (h : k < nby n) : (rby V n).take (k + 1) = (rby V n).take k ++ [UInt8.ofNat (V / 256 ^ k % 256)] := by
  rw [List.take_add_one]
  congr 1
  unfold rby
  rw [List.getElem?_map, List.getElem?_range h]
  rfl
theorem add_sum (l m : List UInt8) (h : l.length + m.length ≤ 1000000000) (w : World) : (Op.stringOp .add (bs l) (bs m)).run Tryz.prog w = .ok (.string (bs (l ++ m))) w := by
  rw [run_string_add_sum w _ _ (by rw [bs_size, bs_size]; omega), bs_append]

set_option maxHeartbeats 800000 in
set_option maxRecDepth 1000000 in
theorem rsb_row (v : Value) (n V : Nat) (w : World) (h : BRd w v n V) (hV : V < 2 ^ n) (hn : n ≤ 1000000) :
    Calls Tryz.prog 30 #[v] w fun e w' => e = .returned (.string (bs (rby V n))) ∧ More w w' := by
  have hcut := fun (w' : World) (hm : More w w') (k : Nat) (hk : k ≤ 1000000) => ref_cut v n V ((k * 8 : Nat) : Int) 8 w' (h.more hm) hV (by omega) (by omega) (by omega)
  obtain ⟨ao, cap, rfl⟩ := h.shape
  have hrl := rby_len V n
  obtain ⟨L, hL⟩ : ∃ L, rby V n = L := ⟨_, rfl⟩
  have hnx := fun k h => rby_take V n k h
  rw [hL] at hrl hnx ⊢
  obtain ⟨K, hK⟩ : ∃ K, nby n = K := ⟨_, rfl⟩
  rw [hK] at hrl hnx
  have hKn : ∀ k, k < K ↔ 8 * k < n := fun k => by rw [← hK, nby_is]; omega
  have HH := Hid.mk (And.intro hrl hKn)
  have hKb : K ≤ 125001 := by rw [← hK, nby_is]; omega
  clear h hV hL hK hrl
  go_enter Tryz.func30, Tryz.ntmps30
  go_wp2
  go_loopw [3, 4] (fun o i wr => ∃ k : Nat, k ≤ K ∧ i = .int .i64 ((k : Int) * 8) ∧ o = .string (bs (L.take k)) ∧ Hid (More w wr)) (fun _ i _ => n + 8 - (intOf i).toNat)
  case atStart => exact ⟨0, Nat.zero_le _, by simp, by simp [bs], Hid.mk (Below.refl _ _)⟩
  case round =>
    obtain ⟨k, hk, rfl, rfl, HR⟩ := hrel
    by_cases hkK : k < K
    · have hc := hcut wr HR.out k (by omega)
      have h8 : 8 * k < n := (HH.out.2 k).1 hkK
      have h8' : (k : Int) * 8 < (n : Int) := by omega
      have hw8 : IntKind.i64.wrap ((k : Int) * 8 + 8) = (k : Int) * 8 + 8 := by rw [IntKind.wrap_i64]; omega
      rw [show min 64 (8 : Int).toNat = 8 by decide, show cutV V ((k * 8 : Nat) : Int) 8 = V / 256 ^ k % 256 by unfold cutV; rw [if_neg (by omega), Int.toNat_natCast, Nat.mul_comm k 8, Nat.pow_mul], Int.natCast_mul] at hc
      have hXb : V / 256 ^ k % 256 < 256 := Nat.mod_lt _ (by decide)
      have hnk := hnx k hkK
      obtain ⟨X, hX⟩ : ∃ X, V / 256 ^ k % 256 = X := ⟨_, rfl⟩
      rw [hX] at hc hXb hnk
      have hwX : IntKind.u8.wrap (X : Int) = X := by rw [IntKind.wrap_u8]; omega
      have hcv := fun w g h => conv_one X hXb w g h
      have hadd := fun w => add_sum (L.take k) [UInt8.ofNat X] (by rw [List.length_take]; simp; omega) w
      rw [← hnk] at hadd
      generalize UInt8.ofNat X = y at *
      generalize L.take k = z at *
      obtain ⟨z1, hz1⟩ : ∃ z1, L.take (k + 1) = z1 := ⟨_, rfl⟩
      rw [hz1] at hadd
      have HZ := Hid.mk hz1
      clear hnx hcut hX hnk hz1
      go_wp2_with (go_at_call 37; refine hc.mono ?_; rintro e w' ⟨rfl, hw⟩; subst w')
      refine ⟨⟨k + 1, by omega, by simp; omega, by rw [HZ.out], Hid.mk (More.trans HR.out (More.alloc _ _))⟩, by simp [intOf]; omega⟩
    · obtain rfl : k = K := by omega
      have h8 : ¬ 8 * k < n := fun h => hkK ((HH.out.2 k).2 h)
      have h8' : ¬ (k : Int) * 8 < (n : Int) := by omega
      have hall : L.take k = L := List.take_of_length_le (by rw [HH.out.1]; exact Nat.le_refl _)
      rw [hall]
      clear hnx hcut hall
      go_wp2
      go_ret
      exact ⟨rfl, HR.out⟩

set_option maxRecDepth 1000000 in
theorem rsb_upper (x d : Nat) (hx : x ≤ 1099511627776) (hd : d ≤ 64) (w : World) : Calls Tryz.prog 36 #[.int .i64 x, .int .i64 d] w fun e w' => e = .returned (.int .i64 (x / 2 ^ d : Nat)) ∧ w' = w := by
  obtain ⟨Q, hQ⟩ : ∃ Q, x / 2 ^ d = Q := ⟨_, rfl⟩
  rw [hQ]
  have HQ := Hid.mk hQ
  clear hQ
  go_enter Tryz.func36, Tryz.ntmps36
  go_wp2
  go_loop [0, 5] (fun a i => ∃ k X : Nat, k ≤ d ∧ i = .int .i64 k ∧ a = .int .i64 X ∧ X ≤ 1099511627776 ∧ Hid (X = x / 2 ^ k)) (fun _ i => d - (intOf i).toNat)
  case atStart => exact ⟨0, x, Nat.zero_le _, rfl, rfl, hx, Hid.mk (by simp)⟩
  case round =>
    obtain ⟨k, X, hk, rfl, rfl, hX, HX⟩ := hrel
    by_cases hkd : k < d
    · obtain ⟨Y, hY⟩ : ∃ Y, X / 2 = Y := ⟨_, rfl⟩
      have e1 : (X : Int) / 2 = Y := by omega
      have HY := Hid.mk hY
      have hYb : Y ≤ 1099511627776 := by omega
      clear hY
      go_wp2
      refine ⟨⟨k + 1, Y, by omega, by go_num, rfl, hYb, Hid.mk ?_⟩, by simp [intOf]; omega⟩
      rw [Nat.pow_succ, ← Nat.div_div_eq_div_mul, ← HX.out, HY.out]
    · obtain rfl : k = d := by omega
      obtain rfl : X = Q := by rw [HX.out, HQ.out]
      go_wp2
      go_ret
      exact ⟨rfl, rfl⟩

/-- Add of bits that are cut. -/
theorem ref_add_cut (base n V x N : Nat) (v : Value) (w : World) (hown : w.ownsRow base 4 1 v n (bools V n)) (hV : V < 2 ^ n) (hx : x < 18446744073709551616) (hn : n ≤ 1099511627776) (hN : N ≤ 64) :
    Calls Tryz.prog 63 #[v, .int .u64 x, .int .i64 N] w fun e w' => ∃ v', e = .returned v' ∧ w'.ownsRow w.heap.size 4 1 v' (n + N) (bools (cat V n (x % 2 ^ N)) (n + N)) ∧ More w w' := by
  have := ref_add base n V x N v w hown hV hx hn hN
  rw [bools_congr (U := cat V n (x % 2 ^ N)) (fun i hi => by
    rw [cat_bit x hV, cat_bit _ hV]
    by_cases h : i < n
    · rw [if_pos h, if_pos h]
    · rw [if_neg h, if_neg h, Nat.testBit_mod_two_pow]
      simp; omega)] at this
  exact this

set_option maxHeartbeats 800000 in
set_option maxRecDepth 1000000 in
/-- The same bits are the same. -/
theorem rsb_same (a b : Value) (n V : Nat) (w : World) (h : BRd w a n V) (h' : BRd w b n V) (hn : n ≤ 1099511627776) :
    Calls Tryz.prog 39 #[a, b] w fun e w' => e = .returned (.bool true) ∧ ∃ m, w' = w.drewN m := by
  by_cases h0 : n = 0
  · obtain ⟨ao, cap, rfl⟩ := h.shape
    obtain ⟨ao', cap', rfl⟩ := h'.shape
    subst h0
    clear h h'
    go_enter Tryz.func39, Tryz.ntmps39
    go_wp2
    refine wp_loop_rounds 1 ?_; rw [rounds_succ]; go_wp2
    go_ret
    exact ⟨rfl, 0, rfl⟩
  · obtain ⟨g, cap, rfl, hc⟩ : ∃ g cap, a = .slice (some ⟨g, 0, none⟩) n cap ∧ ∀ j, j < n → w.cell? ⟨g, j, none⟩ = some (.bool (V.testBit j)) := by
      rcases h with ⟨rfl, _⟩ | h
      · omega
      · exact h
    obtain ⟨g', cap', rfl, hc'⟩ : ∃ g cap, b = .slice (some ⟨g, 0, none⟩) n cap ∧ ∀ j, j < n → w.cell? ⟨g, j, none⟩ = some (.bool (V.testBit j)) := by
      rcases h' with ⟨rfl, _⟩ | h
      · omega
      · exact h
    have HC := Hid.mk (And.intro hc hc')
    clear h h' hc hc'
    go_enter Tryz.func39, Tryz.ntmps39
    go_wp2
    go_loopw [5] (fun i wr => ∃ k : Nat, k ≤ n ∧ i = .int .i64 k ∧ (∃ m, wr = w.drewN m)) (fun i _ => n - (intOf i).toNat)
    case atStart => exact ⟨0, Nat.zero_le _, rfl, ⟨0, rfl⟩⟩
    case round =>
      obtain ⟨k, hk, rfl, ⟨m, rfl⟩⟩ := hrel
      by_cases hkK : k < n
      · have hck := HC.out.1 k hkK
        have hck' := HC.out.2 k hkK
        generalize V.testBit k = y at *
        go_wp2_with fail
        go_quiet (fail)
        cases y
        all_goals
          go_wp2
          exact ⟨⟨k + 1, by omega, by go_num, ⟨_, rfl⟩⟩, by simp [intOf]; omega⟩
      · go_wp2
        go_ret
        exact ⟨rfl, m, rfl⟩

end Go.Proofs.YtbjgbigalfhnjaaGreatDoor

namespace Go.Proofs.YtbjgbigalfhnjaaGreatDoor
open Go.RowKit

theorem bools_src {w : World} {base n V : Nat} {v : Value} (hown : w.ownsRow base 4 1 v n (bools V n)) {w' : World} (hm : More w w') : (v = .slice none 0 0 ∧ n = 0) ∨ ∃ ad c, v = .slice (some ad) n c ∧ ∀ j u, (bools V n)[j]? = some u → w'.cell? (ad.add j) = some u := by
  rcases hown.2 with h | ⟨g, cap, cur, rfl, _, hg, _⟩
  · exact .inl h
  · refine .inr ⟨_, _, rfl, fun j u hu => ?_⟩
    have hj : j < n := by have := (List.getElem?_eq_some_iff.1 hu).1; simpa [bools_len] using this
    rw [Addr.add_lit, Nat.zero_add, hm.cell (p := ⟨g, j, none⟩) (lt_of_block hg), hown.cellAt j (by omega), hu]
theorem bools_one (V n : Nat) : ∀ u ∈ bools V n, u.oneCell' = true := by intro y hy; simp [bools] at hy; obtain ⟨_, _, rfl⟩ := hy; rfl
theorem bools_join (L H n m : Nat) (hL : L < 2 ^ n) : bools L n ++ bools H m = bools (cat L n H) (n + m) := by
  apply List.ext_getElem?
  intro i
  by_cases hi : i < n
  · rw [List.getElem?_append_left (by rw [bools_len]; exact hi), bools_get _ _ _ hi, bools_get _ _ _ (by omega), cat_bit H hL, if_pos hi]
  · rw [List.getElem?_append_right (by rw [bools_len]; omega), bools_len]
    by_cases h2 : i < n + m
    · rw [bools_get _ _ _ (by omega), bools_get _ _ _ h2, cat_bit H hL, if_neg hi]
    · rw [List.getElem?_eq_none (by rw [bools_len]; omega), List.getElem?_eq_none (by rw [bools_len]; omega)]
theorem cat_none (V n : Nat) : cat V n (0 % 2 ^ 1) = V := by simp [cat]

set_option maxHeartbeats 1600000 in
set_option maxRecDepth 1000000 in
theorem rsb_bits (v : Value) (N : Nat) (f : Nat → Nat) (w : World) (h : ZRd w v N (fun j => (f j : Int))) (hC : Climbs f N) (hN4 : N ≤ 4000) :
    Calls Tryz.prog 31 #[v] w fun e w' => ∃ v', e = .returned v' ∧ w'.ownsRow w.heap.size 4 1 v' (seqN f (wdt f N) N) (bools (seqV f (wdt f N) N) (seqN f (wdt f N) N)) ∧ More w w' := by
  by_cases h0 : N = 0
  · subst h0
    obtain ⟨ao, cap, rfl⟩ := h.shape
    rw [show seqN f (wdt f 0) 0 = 0 by simp [seqN, hN], show bools (seqV f (wdt f 0) 0) 0 = [] by simp [bools]]
    clear h
    go_enter Tryz.func31, Tryz.ntmps31
    go_wp2
    go_ret
    exact ⟨_, rfl, World.ownsRow_nil _ _ _ _, Below.refl _ _⟩
  · obtain ⟨g, o, cap, rfl, hg, hc⟩ : ∃ b o cap, v = .slice (some ⟨b, o, none⟩) N cap ∧ b < w.heap.size ∧ ∀ j, j < N → w.cell? ⟨b, o + j, none⟩ = some (.int .i64 ((f j : Nat) : Int)) := by
      rcases h with ⟨h, _⟩ | h
      · exact absurd h h0
      · exact h
    obtain ⟨i0, hi, hz0, hz1, hz2⟩ := info_parts Tryz.info4
    obtain ⟨N1, hN1⟩ : ∃ N1, N - 1 = N1 := ⟨_, rfl⟩
    have e1 : (N : Int) - 1 = (N1 : Int) := by omega
    have hN1b : N1 < N := by omega
    obtain ⟨U, hU⟩ : ∃ U, f N1 = U := ⟨_, rfl⟩
    have hc1 := hc N1 hN1b
    rw [hU] at hc1
    have hUb : U ≤ 1099511627776 := by rw [← hU]; exact hC.top N1 hN1b
    have hlow := fun w => ref_low (N : Int) (U : Int) (by omega) (by omega) w
    obtain ⟨D, hD⟩ : ∃ D, wdt f N = D := ⟨_, rfl⟩
    have hDl : lowN N U = D := by rw [← hD, ← hU, ← hN1]; unfold wdt; rw [lst_pos f h0]
    rw [lowZ_nat, hDl] at hlow
    have hD40 : D ≤ 40 := by rw [← hD]; exact wdt_le hC
    have hSN := seqN_le hC
    rw [hD] at hSN
    have hNb := hN_bound hC
    rw [hD] at hNb
    rw [hD]
    have hcell := fun (w' : World) (hm : More w w') (j : Nat) (hj : j < N) => (hm.cell (p := ⟨g, o + j, none⟩) hg).trans (hc j hj)
    have hNe : ¬ (N : Int) = 0 := by omega
    have HH := Hid.mk (And.intro hcell hC)
    clear h hc hcell hC hU hD hDl hN1
    go_enter Tryz.func31, Tryz.ntmps31
    go_wp2_with (go_at_call 34; refine (hlow _).mono ?_; rintro e w' ⟨rfl, hw⟩; subst w')
    go_loopw [3, 4, 6, 7] (fun lo hi at_ i wr => ∃ k A : Nat, i = .int .i64 k ∧ at_ = .int .i64 A ∧ k ≤ N ∧ A ≤ 1099511627776 ∧ Hid (A + k = hN f D k ∧ wr.ownsRow w.heap.size 4 1 lo (D * k) (bools (packV D (fun i => f i % 2 ^ D) k) (D * k)) ∧ wr.ownsRow w.heap.size 4 1 hi (hN f D k) (bools (hV f D k) (hN f D k)) ∧ More w wr)) (fun _ _ _ i _ => N - (intOf i).toNat)
    case atStart => exact ⟨0, 0, rfl, rfl, Nat.zero_le _, by decide, Hid.mk ⟨rfl, World.ownsRow_nil _ _ _ _, World.ownsRow_nil _ _ _ _, Below.refl _ _⟩⟩
    case round =>
      obtain ⟨k, A, rfl, rfl, hk, hA, HR⟩ := hrel
      obtain ⟨al, cl, rfl⟩ := shape_of HR.out.2.1
      obtain ⟨ah, ch, rfl⟩ := shape_of HR.out.2.2.1
      by_cases hkN : k < N
      · have hck := HH.out.1 wr HR.out.2.2.2 k hkN
        have hfk := HH.out.2.top k hkN
        have hle := hN_le HH.out.2 D hkN
        have htop : hp f D k + 1 ≤ hN f D N := hp_end HH.out.2 D hkN
        have hDk : D * k ≤ 160000 := Nat.mul_le_mul hD40 (show k ≤ 4000 by omega)
        obtain ⟨X, hX⟩ : ∃ X, f k = X := ⟨_, rfl⟩
        obtain ⟨H, hH⟩ : ∃ H, X / 2 ^ D = H := ⟨_, rfl⟩
        have hpe : hp f D k = H + k := by unfold hp; rw [hX, hH]
        have hAH : A ≤ H := by have := HR.out.1; omega
        rw [hX] at hck hfk
        have hadd := ref_add_cut w.heap.size (D * k) _ X D _ wr HR.out.2.1 (lows_lt f D k) (by omega) (by omega) (by omega)
        have hcat : cat (packV D (fun i => f i % 2 ^ D) k) (D * k) (X % 2 ^ D) = packV D (fun i => f i % 2 ^ D) (k + 1) := by rw [packV, hX]
        rw [hcat, ← Nat.mul_succ] at hadd
        have hup := fun w => rsb_upper X D hfk (by omega) w
        rw [hH] at hup
        have hwX : IntKind.u64.wrap (X : Int) = X := by rw [IntKind.wrap_u64]; omega
        have hVk := hV_lt HH.out.2 D (Nat.le_of_lt hkN)
        have HX := Hid.mk (And.intro hX (And.intro hpe (And.intro hle (And.intro htop hVk))))
        have hHb : H ≤ 1099511627776 := by rw [← hH]; exact Nat.le_trans (Nat.div_le_self _ _) hfk
        clear hX hH hpe hle htop hcat hVk
        go_wp2_with (go_at_call 63; refine hadd.mono ?_; rintro e w1 ⟨v1, rfl, hown1, hm1⟩; have H1 := Hid.mk (And.intro (own_lower hown1 HR.out.2.2.2.size) (And.intro hm1 (And.intro (More.own HR.out.2.2.1 hm1) (More.trans HR.out.2.2.2 hm1)))); clear hown1 hm1; obtain ⟨a1, c1, hs1⟩ := shape_of H1.out.1; subst hs1)
        go_loopw [4, 6] (fun hi at_ wi => ∃ B : Nat, at_ = .int .i64 B ∧ A ≤ B ∧ B ≤ H ∧ Hid (wi.ownsRow w.heap.size 4 1 hi (hN f D k + (B - A)) (bools (hV f D k) (hN f D k + (B - A))) ∧ More w1 wi)) (fun _ at_ _ => H - (intOf at_).toNat)
        case atStart => exact ⟨A, rfl, Nat.le_refl _, hAH, Hid.mk ⟨by rw [Nat.sub_self, Nat.add_zero]; exact H1.out.2.2.1, Below.refl _ _⟩⟩
        case round =>
          obtain ⟨B, rfl, hAB, hBH, HI⟩ := hrel
          obtain ⟨a2, c2, rfl⟩ := shape_of HI.out.1
          have hckr := HH.out.1 wr (More.trans H1.out.2.2.2 HI.out.2) k hkN
          rw [HX.out.1] at hckr
          have hVB : hV f D k < 2 ^ (hN f D k + (B - A)) := Nat.lt_of_lt_of_le HX.out.2.2.2.2 (Nat.pow_le_pow_right (by decide) (by omega))
          have hnb : hN f D k + (B - A) ≤ 100000 := by have h1 := HX.out; have h2 := HR.out.1; omega
          by_cases hBlt : B < H
          · have hadd2 := ref_add_cut w.heap.size _ _ 0 1 _ wr HI.out.1 hVB (by decide) (by omega) (by decide)
            rw [cat_none, Nat.add_assoc] at hadd2
            have hBlt' : (B : Int) < (H : Int) := by omega
            clear hVB
            go_wp2_with (first
              | (go_at_call 36; refine (hup _).mono ?_; rintro e w' ⟨rfl, hw⟩; subst w')
              | (go_at_call 63; refine hadd2.mono ?_; rintro e w2 ⟨v2, rfl, hown2, hm2⟩; have H2 := Hid.mk (And.intro (own_lower hown2 (More.trans H1.out.2.2.2 HI.out.2).size) (More.trans HI.out.2 hm2)); clear hown2 hm2; obtain ⟨a3, c3, hs3⟩ := shape_of H2.out.1; subst hs3))
            refine ⟨⟨B + 1, by go_num, by omega, by omega, Hid.mk ⟨?_, H2.out.2⟩⟩, by simp [intOf]; omega⟩
            rw [show B + 1 - A = B - A + 1 by omega]
            exact H2.out.1
          · obtain rfl : B = H := by omega
            have hadd2 := ref_add_cut w.heap.size _ _ 1 1 _ wr HI.out.1 hVB (by decide) (by omega) (by decide)
            have hpp : hN f D k + (B - A) = hp f D k := by have h1 := HX.out; have h2 := HR.out.1; omega
            rw [show 1 % 2 ^ 1 = 1 by decide, hpp] at hadd2
            clear hVB
            go_wp2_with (first
              | (go_at_call 36; refine (hup _).mono ?_; rintro e w' ⟨rfl, hw⟩; subst w')
              | (go_at_call 63; refine hadd2.mono ?_; rintro e w2 ⟨v2, rfl, hown2, hm2⟩; have H2 := Hid.mk (And.intro (own_lower hown2 (More.trans H1.out.2.2.2 HI.out.2).size) (And.intro (More.trans HI.out.2 hm2) hm2)); clear hown2 hm2; obtain ⟨a3, c3, hs3⟩ := shape_of H2.out.1; subst hs3))
            refine ⟨⟨k + 1, B, by go_num, rfl, by omega, hHb, Hid.mk ⟨by rw [hN, HX.out.2.1]; omega, More.own H1.out.1 H2.out.2.1, H2.out.1, More.trans H1.out.2.2.2 H2.out.2.1⟩⟩, by simp [intOf]; omega⟩
      · obtain rfl : k = N := by omega
        have hLl := lows_lt f D k
        have hDk : D * k ≤ 160000 := Nat.mul_le_mul hD40 hN4
        have he : (wr.alloc (.cells #[] 4)).ownsRow w.heap.size 4 1 (.slice (some ⟨wr.heap.size, 0, none⟩) 0 0) 0 [] := World.ownsRow_lit wr #[] 0 HR.out.2.2.2.size (by decide) rfl
        have hsl := bools_src HR.out.2.1 (More.alloc wr (.cells #[] 4))
        have HE := Hid.mk (And.intro he (And.intro hsl hLl))
        clear he hsl hLl hkN hk
        go_wp2_with (at_builtin; refine wpList_append_from _ rfl (.tmp 48) (.tmp 49) 70 rfl w.heap.size 4 i0 (.bool false) 1 1 Tryz.underlying70 hi hz0 hz1 hz2 rfl (by decide) _ _ _ rfl HE.out.1 _ (D * k) (bools (packV D (fun i => f i % 2 ^ D) k) (D * k)) rfl (by rw [bools_len, Nat.mul_one]) HE.out.2.1 (bools_one _ _) (by unfold maxLen; omega) (by omega) (by have := HR.out.2.2.2.size; simp; omega) ?_)
        intro v0 w1 hown0 hgrow0
        have hm1 : More wr w1 := ((Below.refl _ wr).alloc (Nat.le_refl _) (.cells #[] 4)).grown hgrow0 (by simp) (fun k hk => by simp [Value.ownBlock] at hk; omega)
        (try rw [List.nil_append, Nat.zero_add] at hown0)
        have hsh := bools_src HR.out.2.2.1 hm1
        have H1 := Hid.mk (And.intro hown0 (And.intro hm1 hsh))
        clear hown0 hgrow0 hm1 hsh
        go_wp2_with (at_builtin; refine wpList_append_from _ rfl (.tmp 50) (.tmp 51) 70 rfl w.heap.size 4 i0 (.bool false) 1 1 Tryz.underlying70 hi hz0 hz1 hz2 rfl (by decide) _ _ _ rfl H1.out.1 _ (hN f D k) (bools (hV f D k) (hN f D k)) rfl (by rw [bools_len, Nat.mul_one]) H1.out.2.2 (bools_one _ _) (by unfold maxLen; omega) (by omega) (by have := HR.out.2.2.2.size; have := H1.out.2.1.size; omega) ?_)
        intro v1 w2 hown1 hgrow1
        rw [bools_join _ _ _ _ HE.out.2.2] at hown1
        have hm2 : More w w2 := (Below.trans HR.out.2.2.2 (H1.out.2.1.mono HR.out.2.2.2.size)).grown hgrow1 (by have := HR.out.2.2.2.size; have := H1.out.2.1.size; omega) (fun j hj => (H1.out.1.lt j hj).1)
        have H2 := Hid.mk (And.intro hown1 hm2)
        clear hown1 hgrow1 hm2
        go_wp2
        go_ret
        exact ⟨_, rfl, H2.out.1, H2.out.2⟩

theorem held_more {wA w' w'' : World} {p : Addr} {u : Value} (h : More wA w' ∧ w'.cell? p = some u) (k : More w' w'') : More wA w'' ∧ w''.cell? p = some u :=
  ⟨More.trans h.1 k, (k.cell (p := p) (World.block_lt_of_cell? _ _ h.2)).trans h.2⟩

set_option maxHeartbeats 1600000 in
set_option maxRecDepth 1000000 in
theorem rsb_seq (v : Value) (N : Nat) (f : Nat → Nat) (w : World) (h : ZRd w v N (fun j => (f j : Int))) (hC : Climbs f N) (hN4 : N ≤ 4000) :
    Calls Tryz.prog 11 #[v] w fun e w' => e = .returned (.string (bs (seqB f N))) ∧ More w w' := by
  by_cases h0 : N = 0
  · subst h0
    obtain ⟨ao, cap, rfl⟩ := h.shape
    rw [seqB_none]
    have hn := fun w => ref_num10 0 (by decide) w
    rw [Int.natCast_zero] at hn
    clear h
    go_enter Tryz.func11, Tryz.ntmps11
    go_wp2_with (go_at_call 29; refine (hn _).mono ?_; rintro e w1 ⟨rfl, hm⟩)
    go_ret
    exact ⟨rfl, hm⟩
  · have hbits := fun (w' : World) (hm : More w w') => rsb_bits v N f w' (h.more hm) hC hN4
    obtain ⟨g, o, cap, rfl, hg, hc⟩ : ∃ b o cap, v = .slice (some ⟨b, o, none⟩) N cap ∧ b < w.heap.size ∧ ∀ j, j < N → w.cell? ⟨b, o + j, none⟩ = some (.int .i64 ((f j : Nat) : Int)) := by
      rcases h with ⟨h, _⟩ | h
      · exact absurd h h0
      · exact h
    obtain ⟨N1, hN1⟩ : ∃ N1, N - 1 = N1 := ⟨_, rfl⟩
    have e1 : (N : Int) - 1 = (N1 : Int) := by omega
    have hwN1 : IntKind.i64.wrap (N1 : Int) = N1 := by rw [IntKind.wrap_i64]; omega
    have hN1b : N1 < N := by omega
    obtain ⟨U, hU⟩ : ∃ U, f N1 = U := ⟨_, rfl⟩
    have hc1 := hc N1 hN1b
    rw [hU] at hc1
    have hUb : U ≤ 1099511627776 := by rw [← hU]; exact hC.top N1 hN1b
    have hlst : lst f N = U := by rw [lst_pos f h0, hN1, hU]
    rw [seqB_some f h0, hlst]
    have hwN : IntKind.u64.wrap (N : Int) = N := by rw [IntKind.wrap_u64]; omega
    have hwU : IntKind.u64.wrap (U : Int) = U := by rw [IntKind.wrap_u64]; omega
    have hn1 := fun w => ref_num10 N (by omega) w
    have hn2 := fun w => ref_num10 U (by omega) w
    have hl1 := (num_ten (v := N) (by omega)).1
    have hl2 := (num_ten (v := U) (by omega)).1
    have hSN := seqN_le hC
    have hV := seqV_lt hC (wdt f N)
    have hrow := fun v' (w' : World) (hb : BRd w' v' (seqN f (wdt f N) N) (seqV f (wdt f N) N)) => rsb_row v' _ _ w' hb hV (by omega)
    have hrl := rby_len (seqV f (wdt f N) N) (seqN f (wdt f N) N)
    rw [nby_is] at hrl
    generalize seqV f (wdt f N) N = V at *
    generalize seqN f (wdt f N) N = n at *
    generalize hR : rby V n = R at *
    have ha1 := fun w => add_sum (num N) (num U) (by omega) w
    have ha2 := fun w => add_sum (num N ++ num U) R (by rw [List.length_append]; omega) w
    rw [List.append_assoc] at ha2
    generalize num N ++ (num U ++ R) = Z at *
    generalize num N ++ num U = Y at *
    generalize num N = A at *
    generalize num U = B at *
    have hNe : ¬ (N : Int) = 0 := by omega
    have hS0 : More w w ∧ w.cell? ⟨g, o + N1, none⟩ = some (.int .i64 U) := ⟨Below.refl _ _, hc1⟩
    clear h hc hC hU hN1 hlst hl1 hl2 hSN hV hrl hR hc1
    go_enter Tryz.func11, Tryz.ntmps11
    go_wp2_with fail
    go_region_held (fun w' => More w w' ∧ w'.cell? ⟨g, o + N1, none⟩ = some (.int .i64 U))
      (first | assumption | exact held_more (by assumption) (by assumption) | exact held_more (by assumption) (More.drewN _ _))
      (first
        | (go_at_call_of 29 (Value.int .u64 (N : Int)); refine (hn1 _).mono ?_; rintro e wa ⟨rfl, hma⟩)
        | (go_at_call_of 29 (Value.int .u64 (U : Int)); refine (hn2 _).mono ?_; rintro e wb ⟨rfl, hmb⟩)
        | (go_at_call 31; refine (hbits _ (And.left (by assumption))).mono ?_; rintro e wc ⟨vc, rfl, hvc, hmc⟩; have Hc := Hid.mk hvc; clear hvc)
        | (go_at_call 30; refine (hrow vc _ ?_).mono ?_; (first | exact brd_of_own Hc.out | exact (brd_of_own Hc.out).more (by assumption) | exact ((brd_of_own Hc.out).more (by assumption)).more (by assumption)); rintro e wd ⟨rfl, hmd⟩))
    all_goals go_wp2
    all_goals go_ret
    all_goals exact ⟨rfl, And.left (by assumption)⟩

end Go.Proofs.YtbjgbigalfhnjaaGreatDoor
