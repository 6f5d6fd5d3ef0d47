/-
  The document's codes: unary, half, power, noughts, low.
-/
import Derived.Test.YtgcjbkcfcklcfaaDoorStreamMath
namespace Go.Proofs.YtgcjbkcfcklcfaaDoor
open Go.RowKit

theorem src_of {w : World} {base n V : Nat} {v : Value} (o : Obj) (hown : w.ownsRow base 4 1 v n (bools V n)) :
    (v = .slice none 0 0 ∧ n = 0) ∨ ∃ ad c, v = .slice (some ad) n c ∧ ∀ j u, (bools V n)[j]? = some u → (w.alloc o).cell? (ad.add j) = some u := by
  rcases hown.2 with h | ⟨g, cap, cur, rfl, _, hg, _⟩
  · exact .inl h
  · refine .inr ⟨_, _, rfl, fun j u hu => ?_⟩
    have hj : j < n := by have := (List.getElem?_eq_some_iff.1 hu).1; simpa [bools_len] using this
    rw [Addr.add_lit, World.cell?_alloc_past _ _ _ (lt_of_block hg), Nat.zero_add, hown.cellAt j (by omega), hu]
theorem bools_one (V n : Nat) : ∀ u ∈ bools V n, u.oneCell' = true := by
  intro y hy; simp [bools] at hy; obtain ⟨_, _, rfl⟩ := hy; rfl

set_option maxHeartbeats 800000 in
set_option maxRecDepth 1000000 in
theorem ref_unary (base n V q : Nat) (v : Value) (w : World) (hown : w.ownsRow base 4 1 v n (bools V n)) (hV : V < 2 ^ n) (hn : n ≤ 1099511600000) (hq : q ≤ 4096) :
    Calls Tryd.prog 31 #[v, .int .i64 q] w fun e w' => ∃ v', e = .returned v' ∧ w'.ownsRow w.heap.size 4 1 v' (n + (q + 1)) (bools (cat V n (2 ^ q)) (n + (q + 1))) ∧ More w w' := by
  obtain ⟨i0, hi, hz0, hz1, hz2⟩ := info_parts Tryd.info4
  have he : (w.alloc (.cells #[] 4)).ownsRow w.heap.size 4 1 (.slice (some ⟨w.heap.size, 0, none⟩) 0 0) 0 [] := World.ownsRow_lit w #[] 0 (Nat.le_refl _) (by decide) rfl
  have HE : Hid _ := And.intro he (And.intro (src_of (.cells #[] 4) hown) hV)
  obtain ⟨ao, cap, rfl⟩ := shape_of hown
  clear he hV hown
  go_enter Tryd.func31, Tryd.ntmps31
  go_wp2_with (at_builtin; refine wpList_append_from _ rfl (.tmp 7) (.tmp 8) 28 rfl w.heap.size 4 i0 (.bool false) 1 1 Tryd.underlying28 hi hz0 hz1 hz2 rfl (by decide) _ _ _ rfl HE.out.1 _ n (bools V n) rfl (by rw [bools_len, Nat.mul_one]) HE.out.2.1 ?c2 ?c3 ?c4 ?c5 ?_)
  case c2 => exact bools_one _ _
  case c3 => unfold maxLen; omega
  case c4 => omega
  case c5 => simp
  intro v0 w1 hown0 hgrow0
  have hbel0 : Below w.heap.size w w1 := ((Below.refl _ w).alloc (Nat.le_refl _) (.cells #[] 4)).grown hgrow0 (by simp) (fun k hk => by simp [Value.ownBlock] at hk; omega)
  have hV := HE.out.2.2
  have hbit : ∀ k, (cat V n (2 ^ q)).testBit (n + k) = decide (q = k) := fun k => by
    rw [cat_bit _ hV, if_neg (by omega), show n + k - n = k by omega, Nat.testBit_two_pow]
  rw [bools_congr (U := cat V n (2 ^ q)) (fun i hi => by rw [cat_bit _ hV, if_pos hi])] at hown0
  have HF : Hid _ := And.intro hown0 (And.intro hbel0 hbit)
  clear hown0 hgrow0 hbel0 HE hV hbit
  go_wp2
  go_loopw [5, 6] (fun v i wr => ∃ k : Nat, k ≤ q ∧ i = .int .i64 k ∧ Hid (wr.ownsRow w.heap.size 4 1 v (n + k) (bools (cat V n (2 ^ q)) (n + k)) ∧ Below w.heap.size w wr)) (fun _ i _ => q - (intOf i).toNat)
  case atStart => exact ⟨0, Nat.zero_le _, rfl, Hid.mk ⟨HF.out.1, HF.out.2.1⟩⟩
  case round =>
    obtain ⟨k, hk, rfl, hown⟩ := hrel
    obtain ⟨ao1, cap1, rfl⟩ := shape_of hown.out.1
    by_cases hkN : k < q
    · have hlast : Hid (bools (cat V n (2 ^ q)) (n + k) ++ [.bool false] = bools (cat V n (2 ^ q)) (n + k + 1)) := by
        show _ = _
        rw [bools_succ, HF.out.2.2, show decide (q = k) = false by simp; omega]
      go_wp2_with (at_builtin; refine wpList_append_own _ rfl (.tmp 15) (.tmp 16) 28 rfl w.heap.size 4 i0 (.bool false) 1 1 Tryd.underlying28 hi hz0 hz1 hz2 rfl (by decide) _ _ _ rfl (hown.out.1.alloc _) ⟨_, 0, none⟩ 1 1 [.bool false] rfl rfl ?c1 ?c2b ?c3b ?c4b ?c5b ?_)
      case c1 => exact one_cell _ _ _
      case c2b => exact one_bool _
      case c3b => unfold maxLen; omega
      case c4b => omega
      case c5b => have := hown.out.2.size; simp; omega
      intro v2 w2 hown2 hgrow2 _
      rw [hlast.out] at hown2
      have hbel2 : Below w.heap.size w w2 := (hown.out.2.alloc hown.out.2.size _).grown hgrow2 (by have := hown.out.2.size; simp; omega) (fun j hj => (hown.out.1.lt j hj).1)
      have HG : Hid _ := And.intro hown2 hbel2
      clear hown2 hbel2 hgrow2 hown
      go_wp2
      refine ⟨⟨k + 1, by omega, by go_num, Hid.mk HG.out⟩, by simp [intOf]; omega⟩
    · obtain rfl : k = q := by omega
      have he : (wr.alloc (.cells #[] 4)).ownsRow w.heap.size 4 1 (.slice (some ⟨wr.heap.size, 0, none⟩) 0 0) 0 [] := World.ownsRow_lit wr #[] 0 hown.out.2.size (by decide) rfl
      have HE : Hid _ := And.intro he (src_of (.cells #[] 4) hown.out.1)
      have hlast : Hid (bools (cat V n (2 ^ k)) (n + k) ++ [.bool true] = bools (cat V n (2 ^ k)) (n + (k + 1))) := by
        show _ = _
        rw [← Nat.add_assoc, bools_succ, HF.out.2.2, show decide (k = k) = true by simp]
      clear he
      go_wp2_with (at_builtin; refine wpList_append_from _ rfl (.tmp 18) (.tmp 19) 28 rfl w.heap.size 4 i0 (.bool false) 1 1 Tryd.underlying28 hi hz0 hz1 hz2 rfl (by decide) _ _ _ rfl HE.out.1 _ (n + k) (bools (cat V n (2 ^ k)) (n + k)) rfl (by rw [bools_len, Nat.mul_one]) HE.out.2 ?c2 ?c3 ?c4 ?c5 ?_)
      case c2 => exact bools_one _ _
      case c3 => unfold maxLen; omega
      case c4 => omega
      case c5 => have := hown.out.2.size; simp; omega
      intro v3 w3 hown3 hgrow3
      have hbel3 : Below w.heap.size w w3 := (hown.out.2.alloc hown.out.2.size (.cells #[] 4)).grown hgrow3 (by have := hown.out.2.size; simp; omega) (fun j hj => (HE.out.1.lt j hj).1)
      have H3 : Hid _ := And.intro hown3 hbel3
      obtain ⟨ao3, cap3, rfl⟩ := shape_of hown3
      clear hown3 hgrow3 hbel3 HE hown
      go_wp2_with (at_builtin; refine wpList_append_own _ rfl (.tmp 20) (.tmp 21) 28 rfl w.heap.size 4 i0 (.bool false) 1 1 Tryd.underlying28 hi hz0 hz1 hz2 rfl (by decide) _ _ _ rfl (H3.out.1.alloc _) ⟨_, 0, none⟩ 1 1 [.bool true] rfl rfl ?d1 ?d2b ?d3b ?d4b ?d5b ?_)
      case d1 => exact one_cell _ _ _
      case d2b => exact one_bool _
      case d3b => unfold maxLen; omega
      case d4b => omega
      case d5b => have := H3.out.2.size; simp; omega
      intro v4 w4 hown4 hgrow4 _
      rw [hlast.out] at hown4
      have hbel4 : Below w.heap.size w w4 := (H3.out.2.alloc H3.out.2.size _).grown hgrow4 (by have := H3.out.2.size; simp; omega) (fun j hj => (H3.out.1.lt j hj).1)
      have H4 : Hid _ := And.intro hown4 hbel4
      clear hown4 hgrow4 hbel4 H3
      go_wp2
      go_ret
      exact ⟨_, rfl, H4.out⟩

theorem halve (x k : Nat) : x / 2 ^ k / 2 = x / 2 ^ (k + 1) := by rw [Nat.div_div_eq_div_mul, Nat.pow_succ]

set_option maxRecDepth 1000000 in
theorem ref_half (x k : Nat) (w : World) (hx : x < 18446744073709551616) (hk : k ≤ 64) :
    Calls Tryd.prog 33 #[.int .u64 x, .int .i64 k] w fun e w' => e = .returned (.int .u64 (x / 2 ^ k : Nat)) ∧ w' = w := by
  obtain ⟨R, hR⟩ : ∃ R, x / 2 ^ k = R := ⟨_, rfl⟩
  rw [hR]
  have HR := Hid.mk hR
  clear hR
  go_enter Tryd.func33, Tryd.ntmps33
  go_wp2
  go_loop [0, 5] (fun v i => ∃ j y : Nat, j ≤ k ∧ v = .int .u64 y ∧ i = .int .i64 j ∧ y < 18446744073709551616 ∧ Hid (y = x / 2 ^ j)) (fun _ i => k - (intOf i).toNat)
  case atStart => exact ⟨0, x, Nat.zero_le _, rfl, rfl, hx, Hid.mk (by simp)⟩
  case round =>
    obtain ⟨j, y, hj, rfl, rfl, hy, Hy⟩ := hrel
    by_cases hjk : j < k
    · have hw := half_wrap y hy
      go_wp2
      refine ⟨⟨j + 1, y / 2, by omega, by first | rfl | simp, by go_num, by omega, Hid.mk ?_⟩, by simp [intOf]; omega⟩
      rw [Hy.out, halve]
    · obtain rfl : j = k := by omega
      obtain rfl : y = R := Hy.out.trans HR.out
      go_wp2
      go_ret
      exact ⟨rfl, rfl⟩

set_option maxRecDepth 1000000 in
theorem ref_power (k : Nat) (w : World) (hk : k ≤ 63) :
    Calls Tryd.prog 42 #[.int .i64 k] w fun e w' => e = .returned (.int .u64 (2 ^ k : Nat)) ∧ w' = w := by
  obtain ⟨R, hR⟩ : ∃ R, 2 ^ k = R := ⟨_, rfl⟩
  rw [hR]
  have HR := Hid.mk hR
  clear hR
  go_enter Tryd.func42, Tryd.ntmps42
  go_wp2
  go_loop [3, 4] (fun v i => ∃ j y : Nat, j ≤ k ∧ v = .int .u64 y ∧ i = .int .i64 j ∧ y ≤ 9223372036854775808 ∧ Hid (y = 2 ^ j)) (fun _ i => k - (intOf i).toNat)
  case atStart => exact ⟨0, 1, Nat.zero_le _, rfl, rfl, by decide, Hid.mk (by simp)⟩
  case round =>
    obtain ⟨j, y, hj, rfl, rfl, hy, Hy⟩ := hrel
    by_cases hjk : j < k
    · have hy2 : 2 * y ≤ 9223372036854775808 := by
        have h1 := Nat.pow_le_pow_right (n := 2) (by decide) (show j + 1 ≤ 63 by omega)
        rw [Nat.pow_succ, ← Hy.out] at h1
        omega
      have hw : IntKind.u64.wrap ((y : Int) * 2) = (y : Int) * 2 := wrapU _ (by omega) (by omega)
      go_wp2
      refine ⟨⟨j + 1, y * 2, by omega, by first | rfl | simp, by go_num, by omega, Hid.mk ?_⟩, by simp [intOf]; omega⟩
      rw [Hy.out, Nat.pow_succ]
    · obtain rfl : j = k := by omega
      obtain rfl : y = R := Hy.out.trans HR.out
      go_wp2
      go_ret
      exact ⟨rfl, rfl⟩

end Go.Proofs.YtgcjbkcfcklcfaaDoor
