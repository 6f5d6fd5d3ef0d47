/-
  The document's answers for prefix: Sum, Where; and the chapter's example.
  PrefixMakes and PrefixSums walked.
-/
import Derived.Test.YtgcaenpflndibaaDoorPrefixB
import Derived.Test.YtgcaenpflndibaaDoorEliasRefB
namespace Go.Proofs.YtgcaenpflndibaaDoor
open Go.RowKit

def f3 (i : Nat) : Nat := [2, 0, 3].getD i 0
theorem f3_rd (w : World) : ZRd (w.alloc (.cells #[.int .i64 2, .int .i64 0, .int .i64 3] 3)) (.slice (some ⟨w.heap.size, 0, none⟩) 3 3) 3 (fun j => (f3 j : Int)) := by
  refine .inr ⟨w.heap.size, 0, 3, rfl, by simp, fun j hj => ?_⟩
  rcases (show j = 0 ∨ j = 1 ∨ j = 2 by omega) with rfl | rfl | rfl <;> simp [f3]

set_option maxHeartbeats 800000 in
set_option maxRecDepth 1000000 in
theorem px_live (w : World) : Calls Tryd.prog 4 #[] w fun e w' => e = .returned (.bool true) ∧ More w w' := by
  have hnew := px_new _ 3 f3 _ (f3_rd w) (by decide) (by decide)
  have hto : ∀ (s base : Nat) (w : World), PxAt w base s f3 3 → Calls Tryd.prog 9 #[.pointer (some ⟨s, 0, none⟩)] w fun e w' => e = .returned (.int .i64 5) ∧ More w w' := fun s base w h => by
    have := px_total base s f3 3 w h
    rwa [show ((sm f3 3 : Nat) : Int) = 5 by decide +kernel] at this
  have hsu : ∀ (s base : Nat) (w : World), PxAt w base s f3 3 → Calls Tryd.prog 10 #[.pointer (some ⟨s, 0, none⟩), .int .i64 1, .int .i64 3] w fun e w' => e = .returned (.int .i64 3) ∧ More w w' := fun s base w h => by
    have := px_sum base s f3 3 1 3 w h
    rwa [show sumZ f3 3 1 3 = 3 by decide +kernel] at this
  have hw1 : ∀ (s base : Nat) (w : World), PxAt w base s f3 3 → Calls Tryd.prog 11 #[.pointer (some ⟨s, 0, none⟩), .int .i64 1] w fun e w' => e = .returned (.int .i64 0) ∧ More w w' := fun s base w h => by
    have := px_where base s f3 3 1 w h
    rwa [show whereZ f3 3 1 = 0 by decide +kernel] at this
  have hw2 : ∀ (s base : Nat) (w : World), PxAt w base s f3 3 → Calls Tryd.prog 11 #[.pointer (some ⟨s, 0, none⟩), .int .i64 2] w fun e w' => e = .returned (.int .i64 2) ∧ More w w' := fun s base w h => by
    have := px_where base s f3 3 2 w h
    rwa [show whereZ f3 3 2 = 2 by decide +kernel] at this
  have hw5 : ∀ (s base : Nat) (w : World), PxAt w base s f3 3 → Calls Tryd.prog 11 #[.pointer (some ⟨s, 0, none⟩), .int .i64 5] w fun e w' => e = .returned (.int .i64 (-1)) ∧ More w w' := fun s base w h => by
    have := px_where base s f3 3 5 w h
    rwa [show whereZ f3 3 5 = -1 by decide +kernel] at this
  go_enter Tryd.func4, Tryd.ntmps4
  go_wp2_with (first
    | (go_at_call 6; refine hnew.mono ?_; rintro e w1 ⟨s, rfl, hs, hm⟩; have H1 := Hid.mk (And.intro hs (More.trans (more_alloc w _) hm)); clear hs hm hnew)
    | (go_at_call 9; refine (hto s _ w1 H1.out.1).mono ?_; rintro e w2 ⟨rfl, hm⟩; have H2 := Hid.mk (And.intro (H1.out.1.more hm) (More.trans H1.out.2 hm)); clear hm hto)
    | (go_at_call 10; refine (hsu s _ w2 H2.out.1).mono ?_; rintro e w3 ⟨rfl, hm⟩; have H3 := Hid.mk (And.intro (H2.out.1.more hm) (More.trans H2.out.2 hm)); clear hm hsu)
    | (go_at_call_of 11 (Value.int IntKind.i64 1); refine (hw1 s _ w3 H3.out.1).mono ?_; rintro e w4 ⟨rfl, hm⟩; have H4 := Hid.mk (And.intro (H3.out.1.more hm) (More.trans H3.out.2 hm)); clear hm hw1)
    | (go_at_call_of 11 (Value.int IntKind.i64 2); refine (hw2 s _ w4 H4.out.1).mono ?_; rintro e w5 ⟨rfl, hm⟩; have H5 := Hid.mk (And.intro (H4.out.1.more hm) (More.trans H4.out.2 hm)); clear hm hw2)
    | (go_at_call_of 11 (Value.int IntKind.i64 5); refine (hw5 s _ w5 H5.out.1).mono ?_; rintro e w6 ⟨rfl, hm⟩; have H6 := Hid.mk (More.trans H5.out.2 hm); clear hm hw5))
  go_ret
  exact ⟨rfl, H6.out⟩

end Go.Proofs.YtgcaenpflndibaaDoor

namespace Go.Proofs.YtgcaenpflndibaaDoor
open Go.RowKit

theorem fits_tell {w : World} {v : Value} {K : Nat} {g : Nat → Int} (h : ZRd w v K g) (h0 : Fits g K) : ZRd w v K (fun j => (((g j).toNat : Nat) : Int)) := h.congr fun j hj => by have := h0.1 j hj; omega

/-- The document's sums of numbers that may be. -/
theorem refx_good (v : Value) (K : Nat) (f : Nat → Nat) (w : World) (h : ZRd w v K (fun j => (f j : Int))) (hK : K ≤ 900) (hf : sm f K ≤ 1099511627776) :
    Calls Tryd.prog 5 #[v] w fun e w' => ∃ ao cap, e = .returned (.tuple #[.slice ao (K + 1) cap, .bool true]) ∧ ZRd w' (.slice ao (K + 1) cap) (K + 1) (fun j => (sm f j : Int)) ∧ More w w' := by
  have ef : (fun j => ((f j : Nat) : Int).toNat) = f := by funext j; simp
  refine (refx_sums v K _ w h hK).mono fun e w' ⟨hs, hm⟩ => ?_
  rcases hs with ⟨_, ao, cap, he, ho⟩ | ⟨hn, _⟩
  · rw [ef] at ho; exact ⟨ao, cap, he, zrd_own ho, hm⟩
  · exact absurd ⟨fun j _ => Int.natCast_nonneg (f j), by rw [ef]; exact hf⟩ hn
theorem refx_bad (v : Value) (K : Nat) (g : Nat → Int) (w : World) (h : ZRd w v K g) (hK : K ≤ 900) (hb : ¬ Fits g K) :
    Calls Tryd.prog 5 #[v] w fun e w' => e = .returned (.tuple #[.slice none 0 0, .bool false]) ∧ More w w' := by
  refine (refx_sums v K _ w h hK).mono fun e w' ⟨hs, hm⟩ => ?_
  rcases hs with ⟨hf, _⟩ | ⟨_, he⟩
  · exact absurd hf hb
  · exact ⟨he, hm⟩

end Go.Proofs.YtgcaenpflndibaaDoor
