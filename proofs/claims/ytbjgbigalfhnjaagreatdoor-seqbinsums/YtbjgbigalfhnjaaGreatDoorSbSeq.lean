/-
  seqbin's numbers: what numbers any bits have.
-/
import Derived.Test.YtbjgbigalfhnjaaGreatDoorSet12
import Derived.Test.YtbjgbigalfhnjaaGreatDoorSbGet
import Derived.Test.YtbjgbigalfhnjaaGreatDoorSet15
import Derived.Test.YtbjgbigalfhnjaaGreatDoorSet05
import Derived.Test.YtbjgbigalfhnjaaGreatDoorEliasE
import Derived.Deep.AppendLies
import Derived.Deep.RegionLaw
namespace Go.Proofs.YtbjgbigalfhnjaaGreatDoor
open Go.RowKit

theorem join_bits (a d x : Nat) (hx : x < 2 ^ d) : a * 2 ^ d ||| x = a * 2 ^ d + x := by
  rw [Nat.or_comm, or_add hx, Nat.add_comm]
theorem cutV_low (V d i : Nat) : cutV V ((d * i : Nat) : Int) d = V / 2 ^ (d * i) % 2 ^ d := by
  unfold cutV
  rw [if_neg (by omega), Int.toNat_natCast]

set_option maxHeartbeats 1600000 in
set_option maxRecDepth 1000000 in
theorem sb_numbers (b V n d M : Nat) (w : World) (hr : RowRd w b V (d * n + M)) (hT : TabIn w) (hn : n ≤ 100000) (hd : d ≤ 40) (hM : M ≤ 1000000) (hb : M * 2 ^ d ≤ 8796093022208) :
    Calls Tryz.prog 58 #[.pointer (some ⟨b, 0, none⟩), .int .i64 n, .int .i64 d] w fun e w' => ∃ v, e = .returned v ∧ w'.ownsRow w.heap.size 3 1 v (gC V d n M) (ints (gN V d n M) (gC V d n M)) ∧ More w w' := by
  obtain ⟨i0, hi, hz0, hz1, hz2⟩ := info_parts Tryz.infoInt
  obtain ⟨S, hS⟩ : ∃ S, d * n = S := ⟨_, rfl⟩
  have hSb : S ≤ 4000000 := by rw [← hS]; exact Nat.mul_le_mul hd hn
  have hmul : (n : Int) * (d : Int) = (S : Int) := by rw [← hS, Int.natCast_mul, Int.mul_comm]
  have hwS : IntKind.i64.wrap (S : Int) = S := by rw [IntKind.wrap_i64]; omega
  obtain ⟨H, hH⟩ : ∃ H, V / 2 ^ S = H := ⟨_, rfl⟩
  have hCe : gC V d n M = min n (rk H M) := by unfold gC; rw [hS, hH]
  have hnx := fun (w' : World) (hm : More w w') (i : Int) => row_next b V (S + M) i w' (by rw [hS] at hr; exact hr.more hm) (More.tab hT hm)
  have hct := fun (w' : World) (hm : More w w') (i : Nat) (hi : i < n) => row_cut b V (S + M) ((d * i : Nat) : Int) d w' (by rw [hS] at hr; exact hr.more hm) (by omega) (by
    have := Nat.mul_le_mul hd (show i ≤ 100000 by omega); omega)
  have HH := Hid.mk (And.intro hS (And.intro hH (And.intro hCe hb)))
  clear hr hT hS hH hCe
  go_enter Tryz.func58, Tryz.ntmps58
  go_wp2_with (refine wpList_make_own _ rfl _ _ 22 rfl w.heap.size 3 i0 (.int .i64 0) 1 Tryz.underlying22 hi hz0 hz1 .i64 .i64 n n rfl rfl rfl (by rw [hz2]; omega) (by unfold maxLen; omega) (Nat.le_refl _) ?_; intro w1 hown hg; have H1 := Hid.mk (And.intro hown (more_grown hg)); clear hown hg)
  go_loopw [7, 9, 20] (fun vv at_ i wr => ∃ k y : Nat, i = .int .i64 k ∧ at_ = .int .i64 ((S : Int) + y - 1) ∧ k ≤ n ∧ y ≤ M ∧ Hid (rk H y = k ∧ k ≤ rk H M ∧ wr.ownsRow w.heap.size 3 1 vv k (ints (gN V d n M) k) ∧ More w wr)) (fun _ _ i _ => n - (intOf i).toNat)
  case atStart => exact ⟨0, 0, rfl, by simp, Nat.zero_le _, Nat.zero_le _, Hid.mk ⟨rfl, Nat.zero_le _, H1.out.1, H1.out.2⟩⟩
  case round =>
    obtain ⟨k, y, rfl, rfl, hk, hy, HR⟩ := hrel
    obtain ⟨af, cf, rfl⟩ := shape_of HR.out.2.2.1
    by_cases hkn : k < n
    · obtain ⟨y0, hy0⟩ : ∃ y0, S + y = y0 := ⟨_, rfl⟩
      have hne := hnx wr HR.out.2.2.2 ((S + y : Nat) : Int)
      have ea : (S : Int) + (y : Int) - 1 + 1 = (y0 : Int) := by omega
      have hwa : IntKind.i64.wrap (y0 : Int) = (y0 : Int) := by rw [IntKind.wrap_i64]; omega
      by_cases hkr : k < rk H M
      · have hni := next_in V S y M k (by rw [HH.out.2.1]; exact HR.out.1) (by rw [HH.out.2.1]; exact hkr)
        rw [HH.out.2.1] at hni
        rw [hni.1, hy0] at hne
        have hpl := pl_lt H M k hkr
        have hpk := pl_le H M k hkr
        obtain ⟨p, hp⟩ : ∃ p, pl H M k = p := ⟨_, rfl⟩
        have hgn : gN V d n M k = (p - k) * 2 ^ d + V / 2 ^ (d * k) % 2 ^ d := by unfold gN; rw [HH.out.1, HH.out.2.1, hp]
        have hctk := fun (w' : World) (hm : More w w') => hct w' hm k hkn
        rw [show min 64 (d : Int).toNat = d by omega, cutV_low V d k] at hctk
        have hlt : V / 2 ^ (d * k) % 2 ^ d < 2 ^ d := Nat.mod_lt _ (Nat.two_pow_pos d)
        have h2d : (2 : Nat) ^ d ≤ 2 ^ 40 := Nat.pow_le_pow_right (by decide) hd
        rw [hp] at hne hpl hpk hni
        obtain ⟨p0, hp0⟩ : ∃ p0, S + p = p0 := ⟨_, rfl⟩
        rw [hp0] at hne
        obtain ⟨q, hq⟩ : ∃ q, p - k = q := ⟨_, rfl⟩
        have hqb : q * 2 ^ d ≤ 8796093022208 := Nat.le_trans (Nat.mul_le_mul_right _ (by omega)) HH.out.2.2.2
        rw [hq] at hgn
        obtain ⟨X, hX⟩ : ∃ X, V / 2 ^ (d * k) % 2 ^ d = X := ⟨_, rfl⟩
        rw [hX] at hgn hctk hlt
        obtain ⟨Y, hY⟩ : ∃ Y, q * 2 ^ d = Y := ⟨_, rfl⟩
        have hjb := join_bits q d X hlt
        rw [hY] at hgn hqb hjb
        have hYi : (q : Int) * 2 ^ d = (Y : Int) := by rw [← hY, Int.natCast_mul, Int.natCast_pow]; rfl
        have hXb : X < 1099511627776 := Nat.lt_of_lt_of_le hlt (by simpa using h2d)
        have hwY : IntKind.i64.wrap (Y : Int) = Y := by rw [IntKind.wrap_i64]; omega
        have hwX : IntKind.i64.wrap (X : Int) = X := by rw [IntKind.wrap_i64]; omega
        obtain ⟨Z, hZ⟩ : ∃ Z, Y + X = Z := ⟨_, rfl⟩
        have hor : bits .or .i64 (Y : Int) (X : Int) = (Z : Int) := by rw [i64_or_nat Y X (by omega) (by omega), hjb, hZ]
        have e3 : (p0 : Int) - (S : Int) = (p : Int) := by omega
        have e4 : (p : Int) - (k : Int) = (q : Int) := by omega
        have hdk : d * k ≤ 4000000 := Nat.mul_le_mul hd (show k ≤ 100000 by omega)
        obtain ⟨W, hW⟩ : ∃ W, d * k = W := ⟨_, rfl⟩
        have e5 : (k : Int) * (d : Int) = (W : Int) := by rw [← hW, Int.natCast_mul, Int.mul_comm]
        rw [hW] at hctk hdk
        have hp0b : p0 ≤ 5000000 := by omega
        have hwq : IntKind.i64.wrap (q : Int) = q := by rw [IntKind.wrap_i64]; omega
        have hwp : IntKind.i64.wrap (p : Int) = p := by rw [IntKind.wrap_i64]; omega
        have hwW : IntKind.i64.wrap (W : Int) = W := by rw [IntKind.wrap_i64]; omega
        have HG := Hid.mk (And.intro (show gN V d n M k = Z by rw [hgn, hZ]) (And.intro hni.2 (And.intro hkr hp0)))
        clear hgn hjb hY hX hW hZ hlt h2d hni hq hp hnx hct hkr hp0 hy0
        go_wp2_with (go_at_call 84; refine hne.mono ?_; rintro e w' ⟨rfl, hw⟩; subst w')
        have hsw := HR.out.2.2.2.size
        go_region_law (first
          | (refine step_append_lies _ rfl (.tmp 34) (.tmp 46) 22 rfl w.heap.size 3 i0 (.int .i64 0) 1 8 Tryz.underlying22 hi hz0 hz1 hz2 rfl (by decide) _ _ _ rfl ((More.own HR.out.2.2.1 H3.out).alloc _) ⟨w3.heap.size, 0, none⟩ 1 1 [.int .i64 (Z : Int)] rfl rfl (one_cell _ _ _) (one_i64 _) (by decide) (by unfold maxLen; omega) (by omega) (by have := H3.out.size; simp; omega) (w3.heap.size + 1) (by simp) ?_
             intro g4 cg4 w4 hown4 hg4 _ _
             have hm4 : More w w4 := (Below.alloc (More.trans HR.out.2.2.2 H3.out) (by have := H3.out.size; omega) _).grown hg4 (by have := H3.out.size; simp; omega) (fun k hk => (HR.out.2.2.1.lt k hk).1)
             rw [← HG.out.1, ← ints_succ] at hown4
             have H4 := Hid.mk (And.intro hown4 hm4)
             clear hown4 hg4 hm4)
          | (go_simp; go_at_call 42; refine (hctk _ (More.trans HR.out.2.2.2 (More.drewN _ 1))).mono ?_; rintro e w3 ⟨rfl, m3, hw3⟩; have H3 : Hid (More wr w3) := Hid.mk (by rw [hw3]; exact More.trans (More.drewN wr 1) (More.drewN _ m3)); clear hw3))
        all_goals
          go_wp2
          exact ⟨⟨k + 1, p + 1, by go_num, by congr 1; have := HG.out.2.2.2; omega, by omega, by omega, Hid.mk ⟨HG.out.2.1, HG.out.2.2.1, H4.out.1, H4.out.2⟩⟩, by simp [intOf]; omega⟩
      · have hno := next_out V S y M (by rw [HH.out.2.1, HR.out.1]; omega)
        rw [hno, hy0] at hne
        have hce : gC V d n M = k := by rw [HH.out.2.2.1]; have := HR.out.2.1; omega
        have HC := Hid.mk hce
        clear hce hno hnx hct hkr hy0
        go_wp2_with (go_at_call 84; refine hne.mono ?_; rintro e w' ⟨rfl, hw⟩; subst w')
        go_ret
        exact ⟨_, rfl, by rw [HC.out]; exact HR.out.2.2.1, HR.out.2.2.2⟩
    · have hce : gC V d n M = k := by rw [HH.out.2.2.1]; have := HR.out.2.1; omega
      have HC := Hid.mk hce
      clear hce hnx hct
      go_wp2
      go_ret
      exact ⟨_, rfl, by rw [HC.out]; exact HR.out.2.2.1, HR.out.2.2.2⟩

end Go.Proofs.YtbjgbigalfhnjaaGreatDoor
