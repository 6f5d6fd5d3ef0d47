/-
  Law 06's kind, write and read; the chapter's example.
-/
import Derived.Test.YtgcjbkcfcklcfaaDoorStreamReader
import Derived.Test.YtgcjbkcfcklcfaaDoorStreamRefD
namespace Go.Proofs.YtgcjbkcfcklcfaaDoor
open Go.RowKit

/-- A code, as a value. -/
abbrev codeV (kd : Int) (x : Nat) (N : Int) : Value := .agg #[.int .i64 kd, .int .u64 x, .int .i64 N]
/-- The box that a code is laid into. -/
abbrev codeO (kd : Int) (x : Nat) (N : Int) : Obj := .cells #[.int .i64 kd, .int .u64 x, .int .i64 N] 34
theorem more_box (w : World) (o : Obj) : More w (w.alloc o) := (Below.refl _ w).alloc (Nat.le_refl _) _

set_option maxRecDepth 1000000 in
theorem law_kind (kd N : Int) (x : Nat) (w : World) : Calls Tryd.prog 9 #[codeV kd x N] w fun e w' => e = .returned (.int .i64 (knd kd)) ∧ w' = w.alloc (codeO kd x N) := by
  by_cases h : kd < 0 ∨ 2 < kd
  · rw [show knd kd = 3 by simp [knd, h]]
    rcases h with h | h
    all_goals
      go_enter Tryd.func9, Tryd.ntmps9
      go_wp2
      go_ret
      exact ⟨rfl, rfl⟩
  · rw [show knd kd = kd by simp [knd, h]]
    have h1 : ¬ kd < 0 := by omega
    have h2 : ¬ 2 < kd := by omega
    clear h
    go_enter Tryd.func9, Tryd.ntmps9
    go_wp2
    go_ret
    exact ⟨rfl, rfl⟩

/-- What write tells. -/
def Put (base b V n x : Nat) (kd N : Int) (w : World) (e : Ending) (w' : World) : Prop :=
  e = .returned (.int .i64 (cdE kd x N)) ∧ WrAt w' base b (wrV kd V n x N) (wrN kd n x N) ∧ Keeps base w w'

set_option maxHeartbeats 800000 in
set_option maxRecDepth 1000000 in
theorem law_write (base b V n x : Nat) (kd N : Int) (w : World) (h : WrAt w base b V n) (hx : x < 18446744073709551616) (hn : n + 5000 ≤ 1099511627776) :
    Calls Tryd.prog 10 #[.pointer (some ⟨b, 0, none⟩), codeV kd x N] w (Put base b V n x kd N w) := by
  have h1 : WrAt (w.alloc (codeO kd x N)) base b V n := h.more (more_box _ _)
  have hk : Keeps base w (w.alloc (codeO kd x N)) := (Keeps.refl base w).alloc h.sz _
  have HK := Hid.mk hk
  clear hk
  by_cases k0 : kd = 0
  · subst k0
    have hw := wr_fixed base b V n x N _ h1 hx hn
    clear h h1
    go_enter Tryd.func10, Tryd.ntmps10
    go_wp2_with (go_at_call 34; refine hw.mono ?_; rintro e w1 ⟨rfl, hr, hk1⟩; have H1 := Hid.mk (And.intro hr (HK.out.trans hk1)); clear hr hk1)
    go_ret
    exact ⟨rfl, H1.out⟩
  by_cases k1 : kd = 1
  · subst k1
    have hw := wr_unary base b V n x N _ h1 hn
    clear h h1
    go_enter Tryd.func10, Tryd.ntmps10
    go_wp2_with (go_at_call 35; refine hw.mono ?_; rintro e w1 ⟨rfl, hr, hk1⟩; have H1 := Hid.mk (And.intro hr (HK.out.trans hk1)); clear hr hk1)
    go_ret
    exact ⟨rfl, H1.out⟩
  by_cases k2 : kd = 2
  · subst k2
    have hw := wr_gamma base b V n x N _ h1 hx hn
    clear h h1
    go_enter Tryd.func10, Tryd.ntmps10
    go_wp2_with (go_at_call 24; refine hw.mono ?_; rintro e w1 ⟨rfl, hr, hk1⟩; have H1 := Hid.mk (And.intro hr (HK.out.trans hk1)); clear hr hk1)
    go_ret
    exact ⟨rfl, H1.out⟩
  have hw := wr_rice base b V n x N kd _ h1 hx hn ⟨k0, k1, k2⟩
  have b0 : (kd == 0) = false := by simp [k0]
  have b1 : (kd == 1) = false := by simp [k1]
  have b2 : (kd == 2) = false := by simp [k2]
  clear h h1 k0 k1 k2
  go_enter Tryd.func10, Tryd.ntmps10
  go_wp2_with (go_at_call 25; refine hw.mono ?_; rintro e w1 ⟨rfl, hr, hk1⟩; have H1 := Hid.mk (And.intro hr (HK.out.trans hk1)); clear hr hk1)
  go_ret
  exact ⟨rfl, H1.out⟩

set_option maxHeartbeats 800000 in
set_option maxRecDepth 1000000 in
theorem none_write (x : Nat) (kd N : Int) (w : World) :
    Calls Tryd.prog 10 #[.pointer none, codeV kd x N] w fun e w' => e = .returned (.int .i64 11) ∧ w' = w.alloc (codeO kd x N) := by
  by_cases k0 : kd = 0
  · subst k0
    go_enter Tryd.func10, Tryd.ntmps10
    go_wp2_with (go_at_call 34; refine (none_fixed _ _ _).mono ?_; rintro e w1 ⟨rfl, hw⟩; subst w1)
    go_ret
    exact ⟨rfl, rfl⟩
  by_cases k1 : kd = 1
  · subst k1
    go_enter Tryd.func10, Tryd.ntmps10
    go_wp2_with (go_at_call 35; refine (none_unary _ _).mono ?_; rintro e w1 ⟨rfl, hw⟩; subst w1)
    go_ret
    exact ⟨rfl, rfl⟩
  by_cases k2 : kd = 2
  · subst k2
    go_enter Tryd.func10, Tryd.ntmps10
    go_wp2_with (go_at_call 24; refine (none_gamma _ _).mono ?_; rintro e w1 ⟨rfl, hw⟩; subst w1)
    go_ret
    exact ⟨rfl, rfl⟩
  have b0 : (kd == 0) = false := by simp [k0]
  have b1 : (kd == 1) = false := by simp [k1]
  have b2 : (kd == 2) = false := by simp [k2]
  clear k0 k1 k2
  go_enter Tryd.func10, Tryd.ntmps10
  go_wp2_with (go_at_call 25; refine (none_rice _ _ _).mono ?_; rintro e w1 ⟨rfl, hw⟩; subst w1)
  go_ret
  exact ⟨rfl, rfl⟩

/-- What read tells. -/
def Got (base b V n a v t er : Nat) (w : World) (e : Ending) (w' : World) : Prop :=
  e = .returned (.int .u64 v) ∧ RdAt w' base b V n (a + t) er ∧ Below base w w'

set_option maxHeartbeats 800000 in
set_option maxRecDepth 1000000 in
theorem law_read (base b V n a v t er x : Nat) (kd N : Int) (w : World) (h : RdAt w base b V n a 0) (hT : TabIn w) (hq : rd kd (V / 2 ^ a) (n - a) N = (v, t, er)) :
    Calls Tryd.prog 19 #[.pointer (some ⟨b, 0, none⟩), codeV kd x N] w (Got base b V n a v t er w) := by
  have h1 : RdAt (w.alloc (codeO kd x N)) base b V n a 0 := h.more (more_box _ _)
  have hT1 : TabIn (w.alloc (codeO kd x N)) := (more_box w (codeO kd x N)).tab hT
  have hk : Below base w (w.alloc (codeO kd x N)) := (more_box _ _).mono h.sz
  have HK := Hid.mk hk
  clear hk hT
  unfold rd at hq
  by_cases k0 : kd = 0
  · subst k0
    rw [if_pos rfl] at hq
    have hw := rdr_fixed base b V n a v t er N _ h1 hT1 hq
    clear h h1 hT1 hq
    go_enter Tryd.func19, Tryd.ntmps19
    go_wp2_with (go_at_call 43; refine hw.mono ?_; rintro e w1 ⟨rfl, hr, hk1⟩; have H1 := Hid.mk (And.intro hr (HK.out.trans hk1)); clear hr hk1)
    go_ret
    exact ⟨rfl, H1.out⟩
  rw [if_neg k0] at hq
  by_cases k1 : kd = 1
  · subst k1
    rw [if_pos rfl] at hq
    have hw := rdr_unary base b V n a v t er _ h1 hT1 hq
    have hv := (rdU_ok hq).2.2
    have hwr : IntKind.u64.wrap (v : Int) = (v : Int) := wrapU _ (by omega) (by omega)
    clear h h1 hT1 hq
    go_enter Tryd.func19, Tryd.ntmps19
    go_wp2_with (go_at_call 44; refine hw.mono ?_; rintro e w1 ⟨rfl, hr, hk1⟩; have H1 := Hid.mk (And.intro hr (HK.out.trans hk1)); clear hr hk1)
    go_ret
    exact ⟨rfl, H1.out⟩
  rw [if_neg k1] at hq
  by_cases k2 : kd = 2
  · subst k2
    rw [if_pos rfl] at hq
    have hw := rdr_gamma base b V n a v t er _ h1 hT1 hq
    clear h h1 hT1 hq
    go_enter Tryd.func19, Tryd.ntmps19
    go_wp2_with (go_at_call 27; refine hw.mono ?_; rintro e w1 ⟨rfl, hr, hk1⟩; have H1 := Hid.mk (And.intro hr (HK.out.trans hk1)); clear hr hk1)
    go_ret
    exact ⟨rfl, H1.out⟩
  rw [if_neg k2] at hq
  have hw := rdr_rice base b V n a v t er N _ h1 hT1 hq
  have b0 : (kd == 0) = false := by simp [k0]
  have b1 : (kd == 1) = false := by simp [k1]
  have b2 : (kd == 2) = false := by simp [k2]
  clear h h1 hT1 hq k0 k1 k2
  go_enter Tryd.func19, Tryd.ntmps19
  go_wp2_with (go_at_call 28; refine hw.mono ?_; rintro e w1 ⟨rfl, hr, hk1⟩; have H1 := Hid.mk (And.intro hr (HK.out.trans hk1)); clear hr hk1)
  go_ret
  exact ⟨rfl, H1.out⟩

set_option maxHeartbeats 800000 in
set_option maxRecDepth 1000000 in
theorem law_stop (base b V n a E x : Nat) (kd N : Int) (w : World) (h : RdAt w base b V n a E) (hE : E ≠ 0) :
    Calls Tryd.prog 19 #[.pointer (some ⟨b, 0, none⟩), codeV kd x N] w fun e w' => e = .returned (.int .u64 0) ∧ More w w' := by
  have HK := Hid.mk (more_box w (codeO kd x N))
  have h1 : RdAt (w.alloc (codeO kd x N)) base b V n a E := h.more (more_box _ _)
  have HR := Hid.mk (And.intro h1 hE)
  clear h h1 hE
  by_cases k0 : kd = 0
  · subst k0
    go_enter Tryd.func19, Tryd.ntmps19
    go_wp2_with (go_at_call 43; refine (stop_fixed base b V n a E _ _ HR.out.1 HR.out.2).mono ?_; rintro e w1 ⟨rfl, hk1⟩; have H1 := Hid.mk (More.trans HK.out hk1); clear hk1)
    go_ret
    exact ⟨rfl, H1.out⟩
  by_cases k1 : kd = 1
  · subst k1
    go_enter Tryd.func19, Tryd.ntmps19
    go_wp2_with (go_at_call 44; refine (stop_unary base b V n a E _ HR.out.1 HR.out.2).mono ?_; rintro e w1 ⟨rfl, hk1⟩; have H1 := Hid.mk (More.trans HK.out hk1); clear hk1)
    go_ret
    exact ⟨rfl, H1.out⟩
  by_cases k2 : kd = 2
  · subst k2
    go_enter Tryd.func19, Tryd.ntmps19
    go_wp2_with (go_at_call 27; refine (stop_gamma base b V n a E _ HR.out.1 HR.out.2).mono ?_; rintro e w1 ⟨rfl, hk1⟩; have H1 := Hid.mk (More.trans HK.out hk1); clear hk1)
    go_ret
    exact ⟨rfl, H1.out⟩
  have b0 : (kd == 0) = false := by simp [k0]
  have b1 : (kd == 1) = false := by simp [k1]
  have b2 : (kd == 2) = false := by simp [k2]
  clear k0 k1 k2
  go_enter Tryd.func19, Tryd.ntmps19
  go_wp2_with (go_at_call 28; refine (stop_rice base b V n a E _ _ HR.out.1 HR.out.2).mono ?_; rintro e w1 ⟨rfl, hk1⟩; have H1 := Hid.mk (More.trans HK.out hk1); clear hk1)
  go_ret
  exact ⟨rfl, H1.out⟩

set_option maxHeartbeats 800000 in
set_option maxRecDepth 1000000 in
theorem none_read (x : Nat) (kd N : Int) (w : World) :
    Calls Tryd.prog 19 #[.pointer none, codeV kd x N] w fun e w' => e = .returned (.int .u64 0) ∧ More w w' := by
  have HK := Hid.mk (more_box w (codeO kd x N))
  by_cases k0 : kd = 0
  · subst k0
    go_enter Tryd.func19, Tryd.ntmps19
    go_wp2_with (go_at_call 43; refine (no_fixed _ _).mono ?_; rintro e w1 ⟨rfl, hk1⟩; have H1 := Hid.mk (More.trans HK.out hk1); clear hk1)
    go_ret
    exact ⟨rfl, H1.out⟩
  by_cases k1 : kd = 1
  · subst k1
    go_enter Tryd.func19, Tryd.ntmps19
    go_wp2_with (go_at_call 44; refine (no_unary _).mono ?_; rintro e w1 ⟨rfl, hk1⟩; have H1 := Hid.mk (More.trans HK.out hk1); clear hk1)
    go_ret
    exact ⟨rfl, H1.out⟩
  by_cases k2 : kd = 2
  · subst k2
    go_enter Tryd.func19, Tryd.ntmps19
    go_wp2_with (go_at_call 27; refine (no_gamma _).mono ?_; rintro e w1 ⟨rfl, hk1⟩; have H1 := Hid.mk (More.trans HK.out hk1); clear hk1)
    go_ret
    exact ⟨rfl, H1.out⟩
  have b0 : (kd == 0) = false := by simp [k0]
  have b1 : (kd == 1) = false := by simp [k1]
  have b2 : (kd == 2) = false := by simp [k2]
  clear k0 k1 k2
  go_enter Tryd.func19, Tryd.ntmps19
  go_wp2_with (go_at_call 28; refine (no_rice _ _).mono ?_; rintro e w1 ⟨rfl, hk1⟩; have H1 := Hid.mk (More.trans HK.out hk1); clear hk1)
  go_ret
  exact ⟨rfl, H1.out⟩

end Go.Proofs.YtgcjbkcfcklcfaaDoor
