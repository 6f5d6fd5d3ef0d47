/-
  The document's Join, All.
-/
import Derived.Test.YtbpegpgbdemomaaTokE
namespace Go.Proofs.Ytbpegpgbdemomaa
open Go.RowKit

theorem list_of (ts : List (List UInt8)) : (List.range ts.length).map (fun j => ts.getD j []) = ts := by
  apply List.ext_getElem (by simp)
  intro j h1 h2
  simp [List.getD, List.getElem?_eq_getElem h2]

set_option maxRecDepth 1000000 in
set_option maxHeartbeats 3200000 in
theorem rf_join (v : Value) (ts : List (List UInt8)) (w : World) (h : ARd w v ts) (hk : ts.length ≤ 60) (hb : ∀ j, j < ts.length → (ts.getD j []).length ≤ 255) :
    Calls Try.prog 49 #[v] w fun e w' => e = .returned (.string (bs (jn (fun j => ts.getD j []) ts.length))) ∧ w' = w := by
  rcases h with ⟨rfl, ao, cap, rfl⟩ | ⟨g, o, cap, rfl, hcell⟩
  · go_enter Try.func49, Try.ntmps49
    go_wp2
    go_loop [3, 4] (fun s k => s = .string (bs []) ∧ k = .int .i64 0) (fun _ _ => 0)
    case atStart => exact ⟨rfl, rfl⟩
    case round =>
      obtain ⟨rfl, rfl⟩ := hrel
      go_wp2
      go_ret
      exact ⟨rfl, rfl⟩
  · have HJ := Hid.mk (fun r (hr : r ≤ ts.length) => jn_len (fun j => ts.getD j []) 255 r fun j hj => hb j (by omega))
    obtain ⟨f, hf⟩ : ∃ f : Nat → List UInt8, (fun j => ts.getD j []) = f := ⟨_, rfl⟩
    have hfj : ∀ j, ts.getD j [] = f j := fun j => by rw [← hf]
    have hcell2 : ∀ k, k < ts.length → w.cell? ⟨g, o + k, none⟩ = some (.string (bs (f k))) := fun k hk => by rw [← hfj]; exact hcell k hk
    have hb2 : ∀ j, j < ts.length → (f j).length ≤ 255 := fun j hj => by rw [← hfj]; exact hb j hj
    rw [hf] at HJ ⊢
    generalize ts.length = n at *
    clear hcell hb hf hfj
    go_enter Try.func49, Try.ntmps49
    go_wp2
    go_loop [3, 4] (fun s k => ∃ r : Nat, r ≤ n ∧ s = .string (bs (jn f r)) ∧ k = .int .i64 r) (fun _ k => n - (intOf k).toNat)
    case atStart => exact ⟨0, by omega, rfl, rfl⟩
    case round =>
      obtain ⟨r, hr, rfl, rfl⟩ := hrel
      by_cases hlt : r < n
      · have c1 := hcell2 r hlt
        have h1 := HJ.out r hr
        have h2 := hb2 r hlt
        have h60 : r * 256 ≤ 15360 := by omega
        have HS := Hid.mk (show jn f (r + 1) = (if 0 < r then jn f r ++ [32] else jn f r) ++ f r from rfl)
        generalize jn f r = s at *
        generalize f r = x at *
        clear hcell2 hb2 HJ
        by_cases h0 : 0 < r
        · rw [if_pos h0] at HS
          have h0' : (0 : Int) < (r : Int) := by omega
          have ha1 : ∀ w, (Op.stringOp .add (bs s) { data := #[32] }).run Try.prog w = .ok (.string (bs (s ++ [32]))) w := fun w => by
            rw [show ({ data := #[32] } : ByteArray) = bs [32] from rfl, run_string_add_sum w _ _ (by rw [bs_size, bs_size]; simp; omega), bs_append]
          have ha2 : ∀ w, (Op.stringOp .add (bs (s ++ [32])) (bs x)).run Try.prog w = .ok (.string (bs (s ++ [32] ++ x))) w := fun w => by
            rw [run_string_add_sum w _ _ (by rw [bs_size, bs_size]; simp; omega), bs_append]
          obtain ⟨y, hy⟩ : ∃ y, s ++ [32] = y := ⟨_, rfl⟩
          obtain ⟨z, hz⟩ : ∃ z, y ++ x = z := ⟨_, rfl⟩
          rw [hy] at ha1 ha2 HS
          rw [hz] at ha2 HS
          clear hy hz
          go_wp2
          exact ⟨⟨r + 1, by omega, by rw [HS.out], by go_num⟩, by simp [intOf]; omega⟩
        · obtain rfl : r = 0 := by omega
          rw [if_neg h0] at HS
          rw [Nat.add_zero] at c1
          have ha2 : ∀ w, (Op.stringOp .add (bs s) (bs x)).run Try.prog w = .ok (.string (bs (s ++ x))) w := fun w => by
            rw [run_string_add_sum w _ _ (by rw [bs_size, bs_size]; omega), bs_append]
          obtain ⟨z, hz⟩ : ∃ z, s ++ x = z := ⟨_, rfl⟩
          rw [hz] at ha2 HS
          clear hz
          go_wp2
          exact ⟨⟨1, by omega, by rw [HS.out], rfl⟩, by simp [intOf]; omega⟩
      · obtain rfl : r = n := by omega
        go_wp2
        go_ret
        exact ⟨rfl, rfl⟩
end Go.Proofs.Ytbpegpgbdemomaa
