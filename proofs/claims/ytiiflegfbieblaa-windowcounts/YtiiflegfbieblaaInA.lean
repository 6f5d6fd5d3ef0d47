/-
  intern: hash, strings.Clone; the document's Find, Slots.
-/
import Derived.Test.YtiiflegfbieblaaMathA
import Derived.Test.YtiiflegfbieblaaTokD
import Derived.Test.YtiiflegfbieblaaInClone
import Derived.Laws.MakeOwn
namespace Go.Proofs.Ytiiflegfbieblaa
open Go.RowKit

set_option maxRecDepth 1000000 in
set_option maxHeartbeats 2000000 in
theorem in_hash (l : List UInt8) (hl : l.length ≤ 281474976710656) (w : World) :
    Calls Try.prog 52 #[.string (bs l)] w fun e w' => e = .returned (.int .u64 (hashN l)) ∧ w' = w := by
  have hsz : (bs l).size = l.length := bs_size l
  have HN := Hid.mk (show hashN l = hashP l l.length ^^^ (hashP l l.length / 4294967296) from rfl)
  go_enter Try.func52, Try.ntmps52
  go_wp2
  go_loop [3, 7] (fun h k => ∃ i : Nat, i ≤ l.length ∧ h = .int .u64 (hashP l i) ∧ k = .int .i64 i) (fun _ k => l.length - (intOf k).toNat)
  case atStart => exact ⟨0, by omega, rfl, rfl⟩
  case round =>
    obtain ⟨i, hi, rfl, rfl⟩ := hrel
    by_cases hlt : i < l.length
    · have hlt' : i < (bs l).size := by omega
      have hB0 := bt_lt l i
      have hS := Hid.mk (show hashP l (i + 1) = hstep (hashP l i) (bt l i) from rfl)
      have hH0 := hashP_lt l i
      obtain ⟨B, hB⟩ : ∃ B, bt l i = B := ⟨_, rfl⟩
      have hbt : ((bs l)[i]'hlt').toNat = B := by rw [bt_bs, hB]
      rw [hB] at hB0 hS
      obtain ⟨H, hH⟩ : ∃ H, hashP l i = H := ⟨_, rfl⟩
      rw [hH] at hS hH0 ⊢
      have hx := xor64 H B hH0 (by omega)
      obtain ⟨X, hX⟩ : ∃ X, H ^^^ B = X := ⟨_, rfl⟩
      have hS2 := Hid.mk (show hashP l (i + 1) = (X * 1099511628211) % 18446744073709551616 by rw [hS.out]; unfold hstep; rw [hX])
      rw [hX] at hx
      clear hX hH hB hS
      go_wp2
      go_round
      case rel => exact ⟨i + 1, by omega, by rw [hS2.out]; go_num, by go_num⟩
      case measure => simp [intOf]; omega
    · obtain rfl : i = l.length := by omega
      have hH0 := hashP_lt l l.length
      obtain ⟨H, hH⟩ : ∃ H, hashP l l.length = H := ⟨_, rfl⟩
      rw [hH] at hH0 HN ⊢
      have hx := xor64 H (H / 4294967296) hH0 (by omega)
      clear hH
      go_wp2
      go_ret
      refine ⟨?_, rfl⟩
      show Ending.returned (.int .u64 (bits .xor .u64 (H : Int) ((H : Int) / 4294967296))) = _
      rw [show ((H : Int) / 4294967296) = ((H / 4294967296 : Nat) : Int) from by omega, hx, HN.out]

set_option maxRecDepth 1000000 in
set_option maxHeartbeats 2000000 in
theorem rf_find (v : Value) (ts : List (List UInt8)) (s : List UInt8) (w : World) (ha : ARd w v ts) (hn : ts.length ≤ 9223372036854775807) :
    Calls Try.prog 27 #[v, .string (bs s)] w fun e w' => e = .returned (.int .i64 (fnd ts s)) ∧ w' = w := by
  have HF := Hid.mk (And.intro (@fnd_not ts s) (fun i (hi : i < ts.length) (e : ts.getD i [] = s) hn => fnd_first hi e hn))
  generalize fnd ts s = R at *
  by_cases h0 : ts.length = 0
  · obtain ⟨ao, ca, rfl⟩ := ha.shape
    have HR := Hid.mk (HF.out.1 fun j hj => by omega)
    rw [h0]
    clear ha hn h0 HF
    go_enter Try.func27, Try.ntmps27
    go_wp2
    go_loop [5] (fun k => k = .int .i64 0) (fun _ => 0)
    case atStart => rfl
    case round =>
      obtain rfl := hrel
      go_wp2
      go_ret
      exact ⟨ret_i64 HR.out.symm, rfl⟩
  · rcases ha with ⟨rfl, _⟩ | ⟨g, o, ca, rfl, cA⟩
    · exact absurd rfl h0
    obtain ⟨n, hnn⟩ : ∃ n, ts.length = n := ⟨_, rfl⟩
    rw [hnn] at cA hn HF ⊢
    have HC := Hid.mk cA
    clear h0 hnn cA
    go_enter Try.func27, Try.ntmps27
    go_wp2
    go_loop [5] (fun k => ∃ r : Nat, r ≤ n ∧ k = .int .i64 r ∧ (∀ j, j < r → ts.getD j [] ≠ s)) (fun k => n - (intOf k).toNat)
    case atStart => exact ⟨0, by omega, rfl, fun j h => by omega⟩
    case round =>
      obtain ⟨r, hr, rfl, hne⟩ := hrel
      have HS := Hid.mk hne
      clear hne
      by_cases hlt : r < n
      · have c1 := HC.out r hlt
        have hE := bs_neq (ts.getD r []) s
        generalize hx : ts.getD r [] = x at c1 hE
        by_cases hxy : x = s
        · have HR := Hid.mk (HF.out.2 r hlt (hx.trans hxy) HS.out)
          clear hx HF
          subst hxy
          go_wp2
          go_ret
          exact ⟨ret_i64 HR.out.symm, rfl⟩
        · have HR := Hid.mk (show ts.getD r [] ≠ s by rw [hx]; exact hxy)
          rw [decide_eq_false hxy] at hE
          have hE2 : ¬ (bs x).toList = (bs s).toList := by rw [bs_list, bs_list]; exact hxy
          clear hx
          go_wp2
          go_round
          case rel => exact ⟨r + 1, by omega, by go_num, fun j hj => by
            by_cases hjr : j = r
            · subst hjr; exact HR.out
            · exact HS.out j (by omega)⟩
          case measure => simp [intOf]; omega
      · obtain rfl : r = n := by omega
        have HR := Hid.mk (HF.out.1 HS.out)
        clear HF
        go_wp2
        go_ret
        exact ⟨ret_i64 HR.out.symm, rfl⟩

set_option maxRecDepth 100000 in
theorem cl_clone (l : List UInt8) (w : World) (hl : l.length ≤ 281474976710656) :
    Calls Try.prog 55 #[.string (bs l)] w fun e w' => e = .returned (.string (bs l)) ∧ More w w' := by
  have hc := fun w => cl_lite l w hl
  go_enter Try.func55, Try.ntmps55
  go_wp2_with (go_at_call 69; refine (hc _).mono ?_; rintro e w' ⟨rfl, hm⟩; have HM := Hid.mk hm; clear hm)
  go_ret
  exact ⟨rfl, HM.out⟩
end Go.Proofs.Ytiiflegfbieblaa
