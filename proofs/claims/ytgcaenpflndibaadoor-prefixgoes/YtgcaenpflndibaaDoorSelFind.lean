/-
  seldir's search: sort.Search over the marks, then word by word.
-/
import Derived.Test.YtgcaenpflndibaaDoorSelDir
import Derived.Deep.RegionWith
import Derived.StillTailTactics
namespace Go.Proofs.YtgcaenpflndibaaDoor
open Go.RowKit

/-- The function number G, that captured the cell c, tells how many lie ahead of each mark, now and later. -/
def Ahead (G : Nat) (w : World) (c U n : Nat) : Prop :=
  ∀ m, m ≤ nm n → ∀ w', More w w' → Calls Tryd.prog G #[.int .i64 m, .pointer (some ⟨c, 0, none⟩)] w' fun e w'' => e = .returned (.int .i64 (ah U n m : Nat)) ∧ ∃ j, w'' = w'.drewN j
theorem Ahead.more {G : Nat} {w w' : World} {c U n : Nat} (h : Ahead G w c U n) (k : More w w') : Ahead G w' c U n := fun m hm w1 h1 => h m hm w1 (More.trans k h1)

/-- The two functions that are handed in. -/
def Two (G : Nat) : Prop := G = 47 ∨ G = 68

set_option maxRecDepth 1000000 in
theorem find_1 (G c U n s k ba bk : Nat) (w : World) (hG : Two G) (hA : Ahead G w c U n) (hs : s + 1 ≤ nm n) (hb : nm n ≤ 2147483649)
    (ca : w.cell? ⟨ba, 0, none⟩ = some (.func (.func G) #[] #[.pointer (some ⟨c, 0, none⟩)])) (ck : w.cell? ⟨bk, 0, none⟩ = some (.int .i64 k)) :
    Calls Tryd.prog 61 #[.int .i64 s, .pointer (some ⟨ba, 0, none⟩), .pointer (some ⟨bk, 0, none⟩)] w fun e w' => e = .returned (.bool (decide (k < ah U n (s + 1)))) ∧ ∃ j, w' = w.drewN j := by
  have hc : ∀ m, Calls Tryd.prog G #[.int .i64 ((s : Int) + 1), .pointer (some ⟨c, 0, none⟩)] (w.drewN m) fun e w'' => e = .returned (.int .i64 (ah U n (s + 1) : Nat)) ∧ ∃ j, w'' = (w.drewN m).drewN j := fun m => hA (s + 1) hs _ (More.drewN _ m)
  generalize ah U n (s + 1) = B at *
  have i1 : IntKind.i64.wrap ((s : Int) + 1) = (s : Int) + 1 := by rw [IntKind.wrap_i64]; omega
  clear hA
  rcases hG with rfl | rfl
  · go_enter Tryd.func61, Tryd.ntmps61
    go_wp2
    go_quiet ((go_at_call 47; exact Calls.quiet_of (hc _)))
    go_wp2
    go_ret
    exact ⟨by simp, _, rfl⟩
  · go_enter Tryd.func61, Tryd.ntmps61
    go_wp2
    go_quiet ((go_at_call 68; exact Calls.quiet_of (hc _)))
    go_wp2
    go_ret
    exact ⟨by simp, _, rfl⟩

set_option maxHeartbeats 800000 in
set_option maxRecDepth 1000000 in
theorem search (N ba bk : Nat) (P : Nat → Bool) (w : World) (hN : N ≤ 2147483649) (hP : ∀ a b, a ≤ b → b < N → P a = true → P b = true)
    (hf : ∀ s, s < N → ∀ m, Calls Tryd.prog 61 #[.int .i64 s, .pointer (some ⟨ba, 0, none⟩), .pointer (some ⟨bk, 0, none⟩)] (w.drewN m) fun e w' => e = .returned (.bool (P s)) ∧ ∃ j, w' = (w.drewN m).drewN j) :
    Calls Tryd.prog 60 #[.int .i64 N, .func (.func 61) #[] #[.pointer (some ⟨ba, 0, none⟩), .pointer (some ⟨bk, 0, none⟩)]] w fun e w' => ∃ r : Nat, e = .returned (.int .i64 r) ∧ r ≤ N ∧ (∀ j, j < r → P j = false) ∧ (∀ j, r ≤ j → j < N → P j = true) ∧ ∃ j, w' = w.drewN j := by
  have HP := Hid.mk hP
  clear hP
  have hnot : ∀ (x : Bool) (w : World), (Op.unary .not (.bool x)).run Tryd.prog w = .ok (.bool (!x)) w := fun _ _ => rfl
  go_enter Tryd.func60, Tryd.ntmps60
  go_wp2
  go_loopw [5, 6] (fun a b wr => ∃ x y : Nat, a = .int .i64 x ∧ b = .int .i64 y ∧ x ≤ y ∧ y ≤ N ∧ (∃ m, wr = w.drewN m) ∧ Hid ((∀ j, j < x → P j = false) ∧ (∀ j, y ≤ j → j < N → P j = true))) (fun a b _ => (intOf b).toNat - (intOf a).toNat)
  case atStart => exact ⟨0, N, rfl, rfl, Nat.zero_le _, Nat.le_refl _, ⟨0, rfl⟩, Hid.mk ⟨fun j h => by omega, fun j h1 h2 => by omega⟩⟩
  case round =>
    obtain ⟨x, y, rfl, rfl, hxy, hy, ⟨m, rfl⟩, HR⟩ := hrel
    by_cases hlt : x < y
    · obtain ⟨q, hq⟩ : ∃ q, (x + y) / 2 = q := ⟨_, rfl⟩
      have hd : ((x : Int) + (y : Int)) / 2 = (q : Int) := by omega
      have hqx : x ≤ q ∧ q < y := by omega
      have hq1 := hqx.1
      have hq2 := hqx.2
      have hfq := hf q (by omega) m
      clear hq hqx
      cases hB : P q with
      | false =>
        rw [hB] at hfq
        have HB := Hid.mk hB
        clear hB hf
        go_wp2_with (go_at_call 61; refine hfq.mono ?_; rintro e w1 ⟨rfl, m1, hw1⟩; subst w1)
        refine ⟨⟨q + 1, y, by go_num, rfl, by omega, hy, ⟨m + m1, by simp⟩, Hid.mk ⟨fun j h => ?_, HR.out.2⟩⟩, by simp [intOf]; omega⟩
        cases hj : P j with
        | false => rfl
        | true => have := HP.out j q (by omega) (by omega) hj; rw [HB.out] at this; exact absurd this (by decide)
      | true =>
        rw [hB] at hfq
        have HB := Hid.mk hB
        clear hB hf
        go_wp2_with (go_at_call 61; refine hfq.mono ?_; rintro e w1 ⟨rfl, m1, hw1⟩; subst w1)
        refine ⟨⟨x, q, rfl, by go_num, by omega, by omega, ⟨m + m1, by simp⟩, Hid.mk ⟨HR.out.1, fun j h1 h2 => HP.out q j h1 h2 HB.out⟩⟩, by simp [intOf]; omega⟩
    · obtain rfl : x = y := by omega
      clear hf
      go_wp2
      go_ret
      exact ⟨x, rfl, hy, HR.out.1, HR.out.2, m, rfl⟩

end Go.Proofs.YtgcaenpflndibaaDoor
