/-
  wire's Reader: take, for each step that is handed in; Num, Int, Upto, Text, Raw.
-/
import Derived.Test.YtbjgbigalfhnjaaGreatDoorSet14
namespace Go.Proofs.YtbjgbigalfhnjaaGreatDoor
open Go.RowKit

/-- What a read tells: of a reader that has an error, nothing. -/
def st {α : Type} (E : Nat) (z : α) (r : α × Nat × Nat) : α × Nat × Nat := if E ≠ 0 then (z, 0, E) else r
theorem st_no {α : Type} {E : Nat} (h : E ≠ 0) (z : α) (r : α × Nat × Nat) : st E z r = (z, 0, E) := by unfold st; rw [if_pos h]
theorem st_ok {α : Type} (z : α) (r : α × Nat × Nat) : st 0 z r = r := rfl

set_option maxHeartbeats 800000 in
set_option maxRecDepth 1000000 in
theorem take_upto (base b a t er : Nat) (v : Nat) (x1 x2 : Nat) (l : List UInt8) (w : World) (h : RdAt w base b l a 0) (hz : a + t ≤ l.length) (h0 : er ≠ 0 → v = 0 ∧ t = 0)
    (hG : Calls Tryz.prog 81 #[.int .i64 a, .pointer (some ⟨x1, 0, none⟩), .pointer (some ⟨x2, 0, none⟩)] w fun e w' => Told (.int .i64 v) (zat a t er) er e ∧ w' = w) :
    Calls Tryz.prog 80 #[.pointer (some ⟨b, 0, none⟩), .func (.func 81) #[] #[.pointer (some ⟨x1, 0, none⟩), .pointer (some ⟨x2, 0, none⟩)]] w fun e w' => e = .returned (.int .i64 v) ∧ RdAt w' base b l (a + t) er ∧ KeepsT RT base w w' := by
  obtain ⟨_, c1, c2, _, z1, z2⟩ := wcells3 h.mem
  by_cases he : er = 0
  · subst he
    have HH := Hid.mk (h.goes hz)
    rw [zat_ok] at hG
    clear h h0
    go_enter Tryz.func80, Tryz.ntmps80
    go_wp2_with (go_at_call 81; refine hG.mono ?_; rintro e w' ⟨rfl, hw'⟩; subst w')
    go_ret
    exact ⟨rfl, HH.out⟩
  · obtain ⟨rfl, rfl⟩ := h0 he
    have HH := Hid.mk (h.errs (E' := er))
    rw [zat_no _ _ he] at hG
    have hne : ((er : Int) != 0) = true := by simp; omega
    clear h h0 hz
    go_enter Tryz.func80, Tryz.ntmps80
    go_wp2_with (go_at_call 81; refine hG.mono ?_; rintro e w' ⟨rfl, hw'⟩; subst w')
    go_ret
    exact ⟨rfl, HH.out⟩

set_option maxRecDepth 1000000 in
theorem stay_upto (base b a E : Nat) (x1 x2 : Nat) (l : List UInt8) (w : World) (h : RdAt w base b l a E) (hE : E ≠ 0) :
    Calls Tryz.prog 80 #[.pointer (some ⟨b, 0, none⟩), .func (.func 81) #[] #[.pointer (some ⟨x1, 0, none⟩), .pointer (some ⟨x2, 0, none⟩)]] w fun e w' => e = .returned (.int .i64 0) ∧ w' = w := by
  obtain ⟨_, c1, c2, _, z1, z2⟩ := wcells3 h.mem
  have hne : ((E : Int) != 0) = true := by simp; omega
  clear h hE
  go_enter Tryz.func80, Tryz.ntmps80
  go_wp2
  go_ret
  exact ⟨rfl, rfl⟩

set_option maxRecDepth 1000000 in
theorem nilt_upto (x1 x2 : Nat) (w : World) :
    Calls Tryz.prog 80 #[.pointer none, .func (.func 81) #[] #[.pointer (some ⟨x1, 0, none⟩), .pointer (some ⟨x2, 0, none⟩)]] w fun e w' => e = .returned (.int .i64 0) ∧ w' = w := by
  go_enter Tryz.func80, Tryz.ntmps80
  go_wp2
  go_ret
  exact ⟨rfl, rfl⟩

set_option maxHeartbeats 800000 in
set_option maxRecDepth 1000000 in
theorem take_raw (base b a t er : Nat) (v : List UInt8) (x1 x2 : Nat) (l : List UInt8) (w : World) (h : RdAt w base b l a 0) (hz : a + t ≤ l.length) (h0 : er ≠ 0 → v = [] ∧ t = 0)
    (hG : Calls Tryz.prog 96 #[.int .i64 a, .pointer (some ⟨x2, 0, none⟩), .pointer (some ⟨x1, 0, none⟩)] w fun e w' => Told (.string (bs v)) (zat a t er) er e ∧ w' = w) :
    Calls Tryz.prog 95 #[.pointer (some ⟨b, 0, none⟩), .func (.func 96) #[] #[.pointer (some ⟨x2, 0, none⟩), .pointer (some ⟨x1, 0, none⟩)]] w fun e w' => e = .returned (.string (bs v)) ∧ RdAt w' base b l (a + t) er ∧ KeepsT RT base w w' := by
  obtain ⟨_, c1, c2, _, z1, z2⟩ := wcells3 h.mem
  by_cases he : er = 0
  · subst he
    have HH := Hid.mk (h.goes hz)
    rw [zat_ok] at hG
    clear h h0
    go_enter Tryz.func95, Tryz.ntmps95
    go_wp2_with (go_at_call 96; refine hG.mono ?_; rintro e w' ⟨rfl, hw'⟩; subst w')
    go_ret
    exact ⟨rfl, HH.out⟩
  · obtain ⟨rfl, rfl⟩ := h0 he
    have HH := Hid.mk (h.errs (E' := er))
    rw [zat_no _ _ he] at hG
    have hne : ((er : Int) != 0) = true := by simp; omega
    clear h h0 hz
    go_enter Tryz.func95, Tryz.ntmps95
    go_wp2_with (go_at_call 96; refine hG.mono ?_; rintro e w' ⟨rfl, hw'⟩; subst w')
    go_ret
    exact ⟨rfl, HH.out⟩

set_option maxRecDepth 1000000 in
theorem stay_raw (base b a E : Nat) (x1 x2 : Nat) (l : List UInt8) (w : World) (h : RdAt w base b l a E) (hE : E ≠ 0) :
    Calls Tryz.prog 95 #[.pointer (some ⟨b, 0, none⟩), .func (.func 96) #[] #[.pointer (some ⟨x2, 0, none⟩), .pointer (some ⟨x1, 0, none⟩)]] w fun e w' => e = .returned (.string (bs [])) ∧ w' = w := by
  obtain ⟨_, c1, c2, _, z1, z2⟩ := wcells3 h.mem
  have hne : ((E : Int) != 0) = true := by simp; omega
  clear h hE
  go_enter Tryz.func95, Tryz.ntmps95
  go_wp2
  go_ret
  exact ⟨rfl, rfl⟩

set_option maxRecDepth 1000000 in
theorem nilt_raw (x1 x2 : Nat) (w : World) :
    Calls Tryz.prog 95 #[.pointer none, .func (.func 96) #[] #[.pointer (some ⟨x2, 0, none⟩), .pointer (some ⟨x1, 0, none⟩)]] w fun e w' => e = .returned (.string (bs [])) ∧ w' = w := by
  go_enter Tryz.func95, Tryz.ntmps95
  go_wp2
  go_ret
  exact ⟨rfl, rfl⟩

set_option maxRecDepth 1000000 in
theorem rdr_upto (base b a t er E : Nat) (v : Nat) (N : Int) (l : List UInt8) (w : World) (h : RdAt w base b l a E) (hN : -9223372036854775808 ≤ N ∧ N ≤ 9223372036854775807) (hq : st E 0 (bnd (l.drop a) N 8) = (v, t, er)) :
    Calls Tryz.prog 56 #[.pointer (some ⟨b, 0, none⟩), .int .i64 N] w fun e w' => e = .returned (.int .i64 v) ∧ RdAt w' base b l (a + t) er ∧ KeepsT RT base w w' := by
  have hmf : ∀ (fn : Fn) (first cap : Array Value) (w : World), (Instr.makeFunc fn first cap).run Tryz.prog w = .ok (.func fn first cap) w := fun _ _ _ _ => rfl
  by_cases hE : E = 0
  · subst hE
    rw [st_ok] at hq
    have hok := bnd_ok hq
    have hz : a + t ≤ l.length := by have := h.le; simp only [List.length_drop] at hok; omega
    have h0 := hok.2.1
    obtain ⟨w2, hw2⟩ : ∃ w2, (w.alloc (.cells #[.pointer (some ⟨b, 0, none⟩)] 36)).alloc (.cells #[.int .i64 N] 3) = w2 := ⟨_, rfl⟩
    have hm : More w w2 := by rw [← hw2]; exact ((More.alloc w _).trans (More.alloc _ _))
    have h2 := h.more hm
    have ht := take_upto base b a t er v w.heap.size (w.heap.size + 1) l w2 h2 hz h0 (stp_upto base b a v t er 0 w.heap.size (w.heap.size + 1) N l w2 h2 hN (by rw [← hw2]; simp) (by rw [← hw2]; simp) hq)
    have HM := Hid.mk (KeepsT.more (T := RT) hm h.sz)
    have HW := Hid.mk hw2
    clear h hq hok hz h0 h2 hm hw2
    go_enter Tryz.func56, Tryz.ntmps56
    go_wp2_with (go_at_call 80; rw [HW.out]; refine ht.mono ?_; rintro e w1 ⟨rfl, hr, hk⟩; have H1 := Hid.mk (And.intro hr (HM.out.trans hk)); clear hr hk ht)
    go_ret
    exact ⟨rfl, H1.out⟩
  · rw [st_no hE] at hq
    simp only [Prod.mk.injEq] at hq
    obtain ⟨rfl, rfl, rfl⟩ := hq
    obtain ⟨w2, hw2⟩ : ∃ w2, (w.alloc (.cells #[.pointer (some ⟨b, 0, none⟩)] 36)).alloc (.cells #[.int .i64 N] 3) = w2 := ⟨_, rfl⟩
    have hm : More w w2 := by rw [← hw2]; exact ((More.alloc w _).trans (More.alloc _ _))
    have ht := stay_upto base b a E w.heap.size (w.heap.size + 1) l w2 (h.more hm) hE
    have HH := Hid.mk (And.intro (h.more hm) (KeepsT.more (T := RT) hm h.sz))
    have HW := Hid.mk hw2
    clear h hE hw2 hm
    go_enter Tryz.func56, Tryz.ntmps56
    go_wp2_with (go_at_call 80; rw [HW.out]; refine ht.mono ?_; rintro e w1 ⟨rfl, hw⟩; subst w1)
    go_ret
    exact ⟨rfl, HH.out⟩

set_option maxRecDepth 1000000 in
theorem no_upto (N : Int) (w : World) : Calls Tryz.prog 56 #[.pointer none, .int .i64 N] w fun e w' => e = .returned (.int .i64 0) ∧ More w w' := by
  have hmf : ∀ (fn : Fn) (first cap : Array Value) (w : World), (Instr.makeFunc fn first cap).run Tryz.prog w = .ok (.func fn first cap) w := fun _ _ _ _ => rfl
  go_enter Tryz.func56, Tryz.ntmps56
  go_wp2_with (go_at_call 80; refine (nilt_upto _ _ _).mono ?_; rintro e w1 ⟨rfl, hw⟩; subst w1)
  go_ret
  exact ⟨rfl, (More.alloc w _).trans (More.alloc _ _)⟩

set_option maxRecDepth 1000000 in
theorem rdr_raw (base b a t er E : Nat) (v : List UInt8) (N : Int) (l : List UInt8) (w : World) (h : RdAt w base b l a E) (hN : -9223372036854775808 ≤ N ∧ N ≤ 9223372036854775807) (hq : st E [] (rdR (l.drop a) N) = (v, t, er)) :
    Calls Tryz.prog 83 #[.pointer (some ⟨b, 0, none⟩), .int .i64 N] w fun e w' => e = .returned (.string (bs v)) ∧ RdAt w' base b l (a + t) er ∧ KeepsT RT base w w' := by
  have hmf : ∀ (fn : Fn) (first cap : Array Value) (w : World), (Instr.makeFunc fn first cap).run Tryz.prog w = .ok (.func fn first cap) w := fun _ _ _ _ => rfl
  by_cases hE : E = 0
  · subst hE
    rw [st_ok] at hq
    have hok := rdR_ok hq
    have hz : a + t ≤ l.length := by have := h.le; simp only [List.length_drop] at hok; omega
    have h0 := hok.2
    obtain ⟨w2, hw2⟩ : ∃ w2, (w.alloc (.cells #[.pointer (some ⟨b, 0, none⟩)] 36)).alloc (.cells #[.int .i64 N] 3) = w2 := ⟨_, rfl⟩
    have hm : More w w2 := by rw [← hw2]; exact ((More.alloc w _).trans (More.alloc _ _))
    have h2 := h.more hm
    have ht := take_raw base b a t er v w.heap.size (w.heap.size + 1) l w2 h2 hz h0 (stp_raw base b a t er 0 w.heap.size (w.heap.size + 1) N v l w2 h2 hN (by rw [← hw2]; simp) (by rw [← hw2]; simp) hq)
    have HM := Hid.mk (KeepsT.more (T := RT) hm h.sz)
    have HW := Hid.mk hw2
    clear h hq hok hz h0 h2 hm hw2
    go_enter Tryz.func83, Tryz.ntmps83
    go_wp2_with (go_at_call 95; rw [HW.out]; refine ht.mono ?_; rintro e w1 ⟨rfl, hr, hk⟩; have H1 := Hid.mk (And.intro hr (HM.out.trans hk)); clear hr hk ht)
    go_ret
    exact ⟨rfl, H1.out⟩
  · rw [st_no hE] at hq
    simp only [Prod.mk.injEq] at hq
    obtain ⟨rfl, rfl, rfl⟩ := hq
    obtain ⟨w2, hw2⟩ : ∃ w2, (w.alloc (.cells #[.pointer (some ⟨b, 0, none⟩)] 36)).alloc (.cells #[.int .i64 N] 3) = w2 := ⟨_, rfl⟩
    have hm : More w w2 := by rw [← hw2]; exact ((More.alloc w _).trans (More.alloc _ _))
    have ht := stay_raw base b a E w.heap.size (w.heap.size + 1) l w2 (h.more hm) hE
    have HH := Hid.mk (And.intro (h.more hm) (KeepsT.more (T := RT) hm h.sz))
    have HW := Hid.mk hw2
    clear h hE hw2 hm
    go_enter Tryz.func83, Tryz.ntmps83
    go_wp2_with (go_at_call 95; rw [HW.out]; refine ht.mono ?_; rintro e w1 ⟨rfl, hw⟩; subst w1)
    go_ret
    exact ⟨rfl, HH.out⟩

set_option maxRecDepth 1000000 in
theorem no_raw (N : Int) (w : World) : Calls Tryz.prog 83 #[.pointer none, .int .i64 N] w fun e w' => e = .returned (.string (bs [])) ∧ More w w' := by
  have hmf : ∀ (fn : Fn) (first cap : Array Value) (w : World), (Instr.makeFunc fn first cap).run Tryz.prog w = .ok (.func fn first cap) w := fun _ _ _ _ => rfl
  go_enter Tryz.func83, Tryz.ntmps83
  go_wp2_with (go_at_call 95; refine (nilt_raw _ _ _).mono ?_; rintro e w1 ⟨rfl, hw⟩; subst w1)
  go_ret
  exact ⟨rfl, (More.alloc w _).trans (More.alloc _ _)⟩

end Go.Proofs.YtbjgbigalfhnjaaGreatDoor
