/-
  seldir's search, whole, for noughts (the text of the search for ones, at the other function that is handed in).
  seldir's One and Zero; of nil too.
-/
import Derived.Test.YtbfolfacppbalaaDoorSelFindB
namespace Go.Proofs.YtbfolfacppbalaaDoor
open Go.RowKit

end Go.Proofs.YtbfolfacppbalaaDoor

namespace Go.Proofs.YtbfolfacppbalaaDoor
open Go.RowKit

set_option maxHeartbeats 800000 in
set_option maxRecDepth 1000000 in
theorem sfind_out_a (d V U n c F : Nat) (k : Int) (base : Nat) (w : World) (h : SDirAt w base d V n) (hA : Ahead 102 w c U n) (hk : k < 0 ∨ (rk U n : Int) ≤ k) :
    Calls Tryd.prog 101 #[.pointer (some ⟨d, 0, none⟩), .int .i64 k, .int .u64 F, .func (.func 102) #[] #[.pointer (some ⟨c, 0, none⟩)]] w fun e w' => e = .returned (.int .i64 (-1)) ∧ More w w' := by
  have hb0 := boxes_new w k (.func (.func 102) #[] #[.pointer (some ⟨c, 0, none⟩)])
  obtain ⟨w0, hw0⟩ : ∃ w0, ((w.alloc (.cells #[.int .i64 k] 3)).alloc (.cells #[.func (.func 102) #[] #[.pointer (some ⟨c, 0, none⟩)]] 69)) = w0 := ⟨_, rfl⟩
  rw [hw0] at hb0
  obtain ⟨ck, _⟩ := cells1 hb0.ck
  obtain ⟨ca, _⟩ := cells1 hb0.ca
  have h0 := (h.more hb0.more).rd
  have c2 := h0.c2
  obtain ⟨vm, c1, hm⟩ := h0.c1
  obtain ⟨am, cm, rfl⟩ := hm.shape
  have HB := Hid.mk hb0.more
  by_cases hn0 : n = 0
  · subst hn0
    clear hA hb0 h h0 hm hk
    go_enter Tryd.func101, Tryd.ntmps101
    go_wp2
    go_ret
    exact ⟨rfl, HB.out⟩
  have hmb : nm n ≤ 2147483649 := by have := h.len; unfold nm nw; omega
  have hal := hA.more hb0.more (nm n) (Nat.le_refl _)
  rw [ah_last] at hal
  have hal0 : ∀ m, Calls Tryd.prog 102 #[.int .i64 (nm n), .pointer (some ⟨c, 0, none⟩)] (w0.drewN m) fun e w'' => e = .returned (.int .i64 (rk U n : Nat)) ∧ ∃ j, w'' = (w0.drewN m).drewN j := fun m => hal _ (More.drewN _ m)
  clear hal hA hb0 h h0 hm
  obtain ⟨M, hM⟩ : ∃ M, nm n = M := ⟨_, rfl⟩
  obtain ⟨K1, hK1⟩ : ∃ K, nm n + 1 = K := ⟨_, rfl⟩
  rw [hK1] at c1
  rw [hM] at hmb hal0
  have i1 : (K1 : Int) - 1 = M := by omega
  have i3 : IntKind.i64.wrap (M : Int) = M := by rw [IntKind.wrap_i64]; omega
  clear hM hK1
  generalize rk U n = R at *
  by_cases hk0 : k < 0
  · have hkd : decide (k < 0) = true := by simpa using hk0
    clear hk
    go_enter Tryd.func101, Tryd.ntmps101
    go_wp2
    go_quiet (fail)
    go_wp2
    go_ret
    exact ⟨rfl, More.trans HB.out (More.drewN _ _)⟩
  · have hkd : decide (k < 0) = false := by simpa using hk0
    have hkR : (R : Int) ≤ k := by omega
    clear hk
    go_enter Tryd.func101, Tryd.ntmps101
    go_wp2
    go_quiet ((go_at_call 102; exact Calls.quiet_of (hal0 _)))
    go_wp2
    go_ret
    exact ⟨rfl, More.trans HB.out (More.drewN _ _)⟩

theorem sfind_a_all (d V U n c F : Nat) (k : Int) (base : Nat) (w : World) (h : SDirAt w base d V n) (hA : Ahead 102 w c U n) (hF : F < 18446744073709551616) (hW : ∀ i, i < nw n → wd V i ^^^ F = wd U i) :
    Calls Tryd.prog 101 #[.pointer (some ⟨d, 0, none⟩), .int .i64 k, .int .u64 F, .func (.func 102) #[] #[.pointer (some ⟨c, 0, none⟩)]] w fun e w' => e = .returned (.int .i64 (sel U k n)) ∧ More w w' := by
  by_cases hk : k < 0 ∨ (rk U n : Int) ≤ k
  · rw [sel_outN U k n hk]; exact sfind_out_a d V U n c F k base w h hA hk
  · obtain ⟨k, rfl⟩ := Int.eq_ofNat_of_zero_le (show 0 ≤ k by omega)
    exact sfind_a d V U n c F k base w h hA hF hW (by omega)

theorem box_later {w : World} {p : Value} {t : TypeId} {w' : World} (hm : More (w.alloc (.cells #[p] t)) w') : w'.cell? ⟨w.heap.size, 0, none⟩ = some p :=
  (hm.cell (p := ⟨w.heap.size, 0, none⟩) (by simp)).trans (by simp)

theorem sdir_one (d V n : Nat) (k : Int) (base : Nat) (w : World) (h : SDirAt w base d V n) :
    Calls Tryd.prog 76 #[.pointer (some ⟨d, 0, none⟩), .int .i64 k] w fun e w' => e = .returned (.int .i64 (sel V k n)) ∧ More w w' := by
  have hm := more_alloc w (.cells #[.pointer (some ⟨d, 0, none⟩)] 104)
  have hf := sfind_a_all d V V n w.heap.size 0 k base _ (h.more hm) (fun m hm' w' hmo => one_ahead d V n m _ w' ((h.more hm).more hmo).rd (box_later hmo) hm') (by decide) (fun i _ => Nat.xor_zero _)
  have HH := Hid.mk hm
  clear h hm
  have hmf : ∀ (fn : Fn) (first cap : Array Value) (w : World), (Instr.makeFunc fn first cap).run Tryd.prog w = .ok (.func fn first cap) w := fun _ _ _ _ => rfl
  go_enter Tryd.func76, Tryd.ntmps76
  go_wp2_with (go_at_call 101; refine hf.mono ?_; rintro e w1 ⟨rfl, hm1⟩; have H1 := Hid.mk hm1; clear hm1)
  go_ret
  exact ⟨rfl, More.trans HH.out H1.out⟩

theorem none_find (G : Nat) (cs : Array Value) (k : Int) (F : Nat) (w : World) :
    Calls Tryd.prog 101 #[.pointer none, .int .i64 k, .int .u64 F, .func (.func G) #[] cs] w fun e w' => e = .returned (.int .i64 (-1)) ∧ More w w' := by
  have hb0 := (boxes_new w k (.func (.func G) #[] cs)).more
  have HB := Hid.mk hb0
  clear hb0
  go_enter Tryd.func101, Tryd.ntmps101
  go_wp2
  go_ret
  exact ⟨rfl, HB.out⟩
theorem none_one (k : Int) (w : World) : Calls Tryd.prog 76 #[.pointer none, .int .i64 k] w fun e w' => e = .returned (.int .i64 (-1)) ∧ More w w' := by
  have hm := more_alloc w (.cells #[.pointer none] 104)
  have hf := fun G cs w => none_find G cs k 0 w
  have HH := Hid.mk hm
  clear hm
  have hmf : ∀ (fn : Fn) (first cap : Array Value) (w : World), (Instr.makeFunc fn first cap).run Tryd.prog w = .ok (.func fn first cap) w := fun _ _ _ _ => rfl
  go_enter Tryd.func76, Tryd.ntmps76
  go_wp2_with (go_at_call 101; refine (hf _ _ _).mono ?_; rintro e w1 ⟨rfl, hm1⟩; have H1 := Hid.mk hm1; clear hm1)
  go_ret
  exact ⟨rfl, More.trans HH.out H1.out⟩

end Go.Proofs.YtbfolfacppbalaaDoor
