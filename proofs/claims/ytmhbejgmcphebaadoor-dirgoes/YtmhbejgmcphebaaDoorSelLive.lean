/-
  The chapter's example holds.
-/
import Derived.Test.YtmhbejgmcphebaaDoorSelRef
namespace Go.Proofs.YtmhbejgmcphebaaDoor
open Go.RowKit

theorem live_V (f : Nat → Nat) : rowV f 0 0 13 5 = 13 := by simp [rowV, turnV, ofW, cat]

set_option maxHeartbeats 800000 in
set_option maxRecDepth 1000000 in
theorem live_true (w : World) : Calls Tryd.prog 5 #[] w fun e w' => e = .returned (.bool true) ∧ More w w' := by
  have hrow := fun w => law_row (.slice none 0 0) 0 0 13 5 (fun _ => 0) w (.inl ⟨rfl, _, _, rfl⟩) (fun _ h => by omega) (by decide) (by decide) (by decide) (by decide)
  rw [live_V, show rowN 0 0 5 = 5 from rfl] at hrow
  have o1 : ∀ (d base : Nat) (w : World), SDirAt w base d 13 5 → Calls Tryd.prog 13 #[.pointer (some ⟨d, 0, none⟩), .int .i64 1] w fun e w' => e = .returned (.int .i64 2) ∧ More w w' := fun d base w h => by
    have := sdir_one d 13 5 1 base w h; rwa [show sel 13 1 5 = 2 by decide +kernel] at this
  have o3 : ∀ (d base : Nat) (w : World), SDirAt w base d 13 5 → Calls Tryd.prog 13 #[.pointer (some ⟨d, 0, none⟩), .int .i64 3] w fun e w' => e = .returned (.int .i64 (-1)) ∧ More w w' := fun d base w h => by
    have := sdir_one d 13 5 3 base w h; rwa [show sel 13 3 5 = -1 by decide +kernel] at this
  have z1 : ∀ (d base : Nat) (w : World), SDirAt w base d 13 5 → Calls Tryd.prog 14 #[.pointer (some ⟨d, 0, none⟩), .int .i64 1] w fun e w' => e = .returned (.int .i64 4) ∧ More w w' := fun d base w h => by
    have := sdir_zero d 13 5 1 base w h; rwa [show sel (flipV 13 (nw 5)) 1 5 = 4 by decide +kernel] at this
  have n1 : ∀ (d base : Nat) (w : World), SDirAt w base d 13 5 → Calls Tryd.prog 12 #[.pointer (some ⟨d, 0, none⟩)] w fun e w' => e = .returned (.int .i64 3) ∧ More w w' := fun d base w h => by
    have := sdir_ones d 13 5 w h.rd; rw [show ((rk 13 5 : Nat) : Int) = 3 by decide +kernel] at this
    exact this.mono fun e w' ⟨he, m, hm⟩ => ⟨he, by rw [hm]; exact More.drewN _ m⟩
  go_enter Tryd.func5, Tryd.ntmps5
  go_wp2_with (first
    | (go_at_call 6; refine (hrow _).mono ?_; rintro e w1 ⟨b, rfl, hr, hm⟩; have H1 := Hid.mk (And.intro hr hm); clear hr hm hrow)
    | (go_at_call 7; refine (sdir_new _ 13 5 w1 (fun w' hm => RowOr.row (hm.row H1.out.1))).mono ?_; rintro e w2 ⟨d, rfl, hd, hm⟩; have H2 := Hid.mk (And.intro hd (More.trans H1.out.2 hm)); clear hd hm)
    | (go_at_call_of 13 (Value.int .i64 1); refine (o1 d _ w2 H2.out.1).mono ?_; rintro e w3 ⟨rfl, hm⟩; have H3 := Hid.mk (And.intro (H2.out.1.more hm) (More.trans H2.out.2 hm)); clear hm)
    | (go_at_call 14; refine (z1 d _ w3 H3.out.1).mono ?_; rintro e w4 ⟨rfl, hm⟩; have H4 := Hid.mk (And.intro (H3.out.1.more hm) (More.trans H3.out.2 hm)); clear hm)
    | (go_at_call_of 13 (Value.int .i64 3); refine (o3 d _ w4 H4.out.1).mono ?_; rintro e w5 ⟨rfl, hm⟩; have H5 := Hid.mk (And.intro (H4.out.1.more hm) (More.trans H4.out.2 hm)); clear hm)
    | (go_at_call 12; refine (n1 d _ w5 H5.out.1).mono ?_; rintro e w6 ⟨rfl, hm⟩; have H6 := Hid.mk (More.trans H5.out.2 hm); clear hm))
  go_ret
  exact ⟨rfl, H6.out⟩

/-- A case lies at block b. -/
structure CaseAt (w : World) (b : Nat) (v : Value) (T x N : Nat) : Prop where
  c0 : w.cell? ⟨b, 0, none⟩ = some v
  c1 : w.cell? ⟨b, 1, none⟩ = some (.int .u8 T)
  c2 : w.cell? ⟨b, 2, none⟩ = some (.int .u64 x)
  c3 : w.cell? ⟨b, 3, none⟩ = some (.int .u8 N)
theorem CaseAt.new (w : World) (v : Value) (T x N : Nat) : CaseAt (w.alloc (.cells #[v, .int .u8 T, .int .u64 x, .int .u8 N] 25)) w.heap.size v T x N := ⟨by simp, by simp, by simp, by simp⟩
theorem CaseAt.more {w w' : World} {b : Nat} {v : Value} {T x N : Nat} (h : CaseAt w b v T x N) (k : More w w') : CaseAt w' b v T x N := by
  have hb := World.block_lt_of_cell? w _ h.c1
  exact ⟨(k.cell (p := ⟨b, 0, none⟩) hb).trans h.c0, (k.cell (p := ⟨b, 1, none⟩) hb).trans h.c1, (k.cell (p := ⟨b, 2, none⟩) hb).trans h.c2, (k.cell (p := ⟨b, 3, none⟩) hb).trans h.c3⟩

end Go.Proofs.YtmhbejgmcphebaaDoor
