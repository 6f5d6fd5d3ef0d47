/-
  stream's Reader: Fixed, Unary, Gamma, Rice, Left, Err, End; law 06's read.
-/
import Derived.Test.YtgcjbkcfcklcfaaDoorStreamTake
namespace Go.Proofs.YtgcjbkcfcklcfaaDoor
open Go.RowKit

theorem rdF_ok {U m v t er : Nat} {N : Int} (h : rdF U m N = (v, t, er)) : t ≤ m ∧ (er ≠ 0 → v = 0 ∧ t = 0) := by
  unfold rdF at h
  split at h
  · simp at h; omega
  · split at h
    · simp at h; omega
    · simp at h; omega
theorem rdU_ok {U m v t er : Nat} (h : rdU U m = (v, t, er)) : t ≤ m ∧ (er ≠ 0 → v = 0 ∧ t = 0) ∧ v ≤ 4096 := by
  obtain ⟨q, e, hn⟩ : ∃ q e, nq U m 4096 = (q, e) := ⟨_, _, rfl⟩
  unfold rdU at h
  rw [hn] at h
  simp only at h
  split at h
  · rename_i he
    subst he
    have := nq_ok hn
    simp at h; omega
  · simp at h; omega
theorem rdG_ok {U m v t er : Nat} (h : rdG U m = (v, t, er)) : t ≤ m ∧ (er ≠ 0 → v = 0 ∧ t = 0) := by
  unfold rdG at h
  split at h
  · split at h
    · simp at h; omega
    · simp at h; omega
  · simp at h; omega
theorem rdR_ok {U m v t er : Nat} {N : Int} (h : rdR U m N = (v, t, er)) : t ≤ m ∧ (er ≠ 0 → v = 0 ∧ t = 0) := by
  unfold rdR at h
  split at h
  · simp at h; omega
  · split at h
    · split at h
      · simp at h; omega
      · split at h
        · simp at h; omega
        · simp at h; omega
    · simp at h; omega

set_option maxRecDepth 1000000 in
theorem rdr_unary (base b V n a v t er : Nat) (w : World) (h : RdAt w base b V n a 0) (hT : TabIn w) (hq : rdU (V / 2 ^ a) (n - a) = (v, t, er)) :
    Calls Tryd.prog 44 #[.pointer (some ⟨b, 0, none⟩)] w fun e w' => e = .returned (.int .i64 v) ∧ RdAt w' base b V n (a + t) er ∧ Below base w w' := by
  have hmf : ∀ (fn : Fn) (first cap : Array Value) (w : World), (Instr.makeFunc fn first cap).run Tryd.prog w = .ok (.func fn first cap) w := fun _ _ _ _ => rfl
  obtain ⟨rb, hb, hr⟩ := h.mem
  have hok := rdU_ok hq
  have ht := take_unary base b V n a v t er w h (by have := h.le; omega) hok.2.1 (rd_unary b rb V n a v t er w (cells3_at hb).1 hr.rd hT h.le hq)
  have hwr : IntKind.i64.wrap (v : Int) = (v : Int) := by rw [IntKind.wrap_i64]; have := hok.2.2; omega
  clear h hT hq hb hr hok
  go_enter Tryd.func44, Tryd.ntmps44
  go_wp2_with (go_at_call 51; refine ht.mono ?_; rintro e w1 ⟨rfl, hr, hk⟩; have H1 := Hid.mk (And.intro hr hk); clear hr hk ht)
  go_ret
  exact ⟨rfl, H1.out⟩

set_option maxRecDepth 1000000 in
theorem stop_unary (base b V n a E : Nat) (w : World) (h : RdAt w base b V n a E) (hE : E ≠ 0) :
    Calls Tryd.prog 44 #[.pointer (some ⟨b, 0, none⟩)] w fun e w' => e = .returned (.int .i64 0) ∧ More w w' := by
  have hmf : ∀ (fn : Fn) (first cap : Array Value) (w : World), (Instr.makeFunc fn first cap).run Tryd.prog w = .ok (.func fn first cap) w := fun _ _ _ _ => rfl
  have ht := stay_unary base b V n a E w h hE
  clear h hE
  go_enter Tryd.func44, Tryd.ntmps44
  go_wp2_with (go_at_call 51; refine ht.mono ?_; rintro e w1 ⟨rfl, hw⟩; subst w1)
  go_ret
  exact ⟨rfl, Below.refl _ _⟩

set_option maxRecDepth 1000000 in
theorem no_unary (w : World) : Calls Tryd.prog 44 #[.pointer none] w fun e w' => e = .returned (.int .i64 0) ∧ More w w' := by
  have hmf : ∀ (fn : Fn) (first cap : Array Value) (w : World), (Instr.makeFunc fn first cap).run Tryd.prog w = .ok (.func fn first cap) w := fun _ _ _ _ => rfl
  go_enter Tryd.func44, Tryd.ntmps44
  go_wp2_with (go_at_call 51; refine (nil_unary _).mono ?_; rintro e w1 ⟨rfl, hw⟩; subst w1)
  go_ret
  exact ⟨rfl, Below.refl _ _⟩

set_option maxRecDepth 1000000 in
theorem rdr_gamma (base b V n a v t er : Nat) (w : World) (h : RdAt w base b V n a 0) (hT : TabIn w) (hq : rdG (V / 2 ^ a) (n - a) = (v, t, er)) :
    Calls Tryd.prog 27 #[.pointer (some ⟨b, 0, none⟩)] w fun e w' => e = .returned (.int .u64 v) ∧ RdAt w' base b V n (a + t) er ∧ Below base w w' := by
  have hmf : ∀ (fn : Fn) (first cap : Array Value) (w : World), (Instr.makeFunc fn first cap).run Tryd.prog w = .ok (.func fn first cap) w := fun _ _ _ _ => rfl
  obtain ⟨rb, hb, hr⟩ := h.mem
  have hok := rdG_ok hq
  have ht := take_gamma base b V n a v t er w h (by have := h.le; omega) hok.2 (rd_gamma b rb V n a v t er w (cells3_at hb).1 hr.rd hT h.le hq)
  clear h hT hq hb hr hok
  go_enter Tryd.func27, Tryd.ntmps27
  go_wp2_with (go_at_call 51; refine ht.mono ?_; rintro e w1 ⟨rfl, hr, hk⟩; have H1 := Hid.mk (And.intro hr hk); clear hr hk ht)
  go_ret
  exact ⟨rfl, H1.out⟩

set_option maxRecDepth 1000000 in
theorem stop_gamma (base b V n a E : Nat) (w : World) (h : RdAt w base b V n a E) (hE : E ≠ 0) :
    Calls Tryd.prog 27 #[.pointer (some ⟨b, 0, none⟩)] w fun e w' => e = .returned (.int .u64 0) ∧ More w w' := by
  have hmf : ∀ (fn : Fn) (first cap : Array Value) (w : World), (Instr.makeFunc fn first cap).run Tryd.prog w = .ok (.func fn first cap) w := fun _ _ _ _ => rfl
  have ht := stay_gamma base b V n a E w h hE
  clear h hE
  go_enter Tryd.func27, Tryd.ntmps27
  go_wp2_with (go_at_call 51; refine ht.mono ?_; rintro e w1 ⟨rfl, hw⟩; subst w1)
  go_ret
  exact ⟨rfl, Below.refl _ _⟩

set_option maxRecDepth 1000000 in
theorem no_gamma (w : World) : Calls Tryd.prog 27 #[.pointer none] w fun e w' => e = .returned (.int .u64 0) ∧ More w w' := by
  have hmf : ∀ (fn : Fn) (first cap : Array Value) (w : World), (Instr.makeFunc fn first cap).run Tryd.prog w = .ok (.func fn first cap) w := fun _ _ _ _ => rfl
  go_enter Tryd.func27, Tryd.ntmps27
  go_wp2_with (go_at_call 51; refine (nil_gamma _).mono ?_; rintro e w1 ⟨rfl, hw⟩; subst w1)
  go_ret
  exact ⟨rfl, Below.refl _ _⟩

set_option maxRecDepth 1000000 in
theorem rdr_fixed (base b V n a v t er : Nat) (N : Int) (w : World) (h : RdAt w base b V n a 0) (_hT : TabIn w) (hq : rdF (V / 2 ^ a) (n - a) N = (v, t, er)) :
    Calls Tryd.prog 43 #[.pointer (some ⟨b, 0, none⟩), .int .i64 N] w fun e w' => e = .returned (.int .u64 v) ∧ RdAt w' base b V n (a + t) er ∧ Below base w w' := by
  have hmf : ∀ (fn : Fn) (first cap : Array Value) (w : World), (Instr.makeFunc fn first cap).run Tryd.prog w = .ok (.func fn first cap) w := fun _ _ _ _ => rfl
  obtain ⟨w2, hw2⟩ : ∃ w2, (w.alloc (.cells #[.pointer (some ⟨b, 0, none⟩)] 47)).alloc (.cells #[.int .i64 N] 3) = w2 := ⟨_, rfl⟩
  have hm : More w w2 := by rw [← hw2]; exact ((Below.refl _ w).alloc (Nat.le_refl _) _).alloc (by simp) _
  have h2 := h.more hm
  obtain ⟨rb, hb, hr⟩ := h2.mem
  have hok := rdF_ok hq
  have ht := take_fixed base b V n a v t er w.heap.size (w.heap.size + 1) w2 h2 (by have := h.le; omega) hok.2 (rd_fixed1 b rb V n a v t er w.heap.size (w.heap.size + 1) N w2 (cells3_at hb).1 hr.rd h.le hq (by rw [← hw2]; simp) (by rw [← hw2]; simp))
  have HM := Hid.mk (hm.mono h.sz)
  have HW := Hid.mk hw2
  clear h hq hb hr hok h2 hm hw2
  go_enter Tryd.func43, Tryd.ntmps43
  go_wp2_with (go_at_call 51; rw [HW.out]; refine ht.mono ?_; rintro e w1 ⟨rfl, hr, hk⟩; have H1 := Hid.mk (And.intro hr (HM.out.trans hk)); clear hr hk ht)
  go_ret
  exact ⟨rfl, H1.out⟩

set_option maxRecDepth 1000000 in
theorem stop_fixed (base b V n a E : Nat) (N : Int) (w : World) (h : RdAt w base b V n a E) (hE : E ≠ 0) :
    Calls Tryd.prog 43 #[.pointer (some ⟨b, 0, none⟩), .int .i64 N] w fun e w' => e = .returned (.int .u64 0) ∧ More w w' := by
  have hmf : ∀ (fn : Fn) (first cap : Array Value) (w : World), (Instr.makeFunc fn first cap).run Tryd.prog w = .ok (.func fn first cap) w := fun _ _ _ _ => rfl
  obtain ⟨w2, hw2⟩ : ∃ w2, (w.alloc (.cells #[.pointer (some ⟨b, 0, none⟩)] 47)).alloc (.cells #[.int .i64 N] 3) = w2 := ⟨_, rfl⟩
  have hm : More w w2 := by rw [← hw2]; exact ((Below.refl _ w).alloc (Nat.le_refl _) _).alloc (by simp) _
  have ht := stay_fixed base b V n a E w.heap.size (w.heap.size + 1) w2 (h.more hm) hE
  have HW := Hid.mk hw2
  clear h hE hw2
  go_enter Tryd.func43, Tryd.ntmps43
  go_wp2_with (go_at_call 51; rw [HW.out]; refine ht.mono ?_; rintro e w1 ⟨rfl, hw⟩; subst w1)
  go_ret
  exact ⟨rfl, hm⟩

set_option maxRecDepth 1000000 in
theorem no_fixed (N : Int) (w : World) : Calls Tryd.prog 43 #[.pointer none, .int .i64 N] w fun e w' => e = .returned (.int .u64 0) ∧ More w w' := by
  have hmf : ∀ (fn : Fn) (first cap : Array Value) (w : World), (Instr.makeFunc fn first cap).run Tryd.prog w = .ok (.func fn first cap) w := fun _ _ _ _ => rfl
  go_enter Tryd.func43, Tryd.ntmps43
  go_wp2_with (go_at_call 51; refine (nil_fixed _ _ _).mono ?_; rintro e w1 ⟨rfl, hw⟩; subst w1)
  go_ret
  exact ⟨rfl, ((Below.refl _ w).alloc (Nat.le_refl _) _).alloc (by simp) _⟩

set_option maxRecDepth 1000000 in
theorem rdr_rice (base b V n a v t er : Nat) (N : Int) (w : World) (h : RdAt w base b V n a 0) (hT : TabIn w) (hq : rdR (V / 2 ^ a) (n - a) N = (v, t, er)) :
    Calls Tryd.prog 28 #[.pointer (some ⟨b, 0, none⟩), .int .i64 N] w fun e w' => e = .returned (.int .u64 v) ∧ RdAt w' base b V n (a + t) er ∧ Below base w w' := by
  have hmf : ∀ (fn : Fn) (first cap : Array Value) (w : World), (Instr.makeFunc fn first cap).run Tryd.prog w = .ok (.func fn first cap) w := fun _ _ _ _ => rfl
  obtain ⟨w2, hw2⟩ : ∃ w2, (w.alloc (.cells #[.pointer (some ⟨b, 0, none⟩)] 47)).alloc (.cells #[.int .i64 N] 3) = w2 := ⟨_, rfl⟩
  have hm : More w w2 := by rw [← hw2]; exact ((Below.refl _ w).alloc (Nat.le_refl _) _).alloc (by simp) _
  have h2 := h.more hm
  obtain ⟨rb, hb, hr⟩ := h2.mem
  have hok := rdR_ok hq
  have ht := take_rice base b V n a v t er w.heap.size (w.heap.size + 1) w2 h2 (by have := h.le; omega) hok.2 (rd_rice1 b rb V n a v t er w.heap.size (w.heap.size + 1) N w2 (cells3_at hb).1 hr.rd (hm.tab hT) h.le hq (by rw [← hw2]; simp) (by rw [← hw2]; simp))
  have HM := Hid.mk (hm.mono h.sz)
  have HW := Hid.mk hw2
  clear h hT hq hb hr hok h2 hm hw2
  go_enter Tryd.func28, Tryd.ntmps28
  go_wp2_with (go_at_call 51; rw [HW.out]; refine ht.mono ?_; rintro e w1 ⟨rfl, hr, hk⟩; have H1 := Hid.mk (And.intro hr (HM.out.trans hk)); clear hr hk ht)
  go_ret
  exact ⟨rfl, H1.out⟩

set_option maxRecDepth 1000000 in
theorem stop_rice (base b V n a E : Nat) (N : Int) (w : World) (h : RdAt w base b V n a E) (hE : E ≠ 0) :
    Calls Tryd.prog 28 #[.pointer (some ⟨b, 0, none⟩), .int .i64 N] w fun e w' => e = .returned (.int .u64 0) ∧ More w w' := by
  have hmf : ∀ (fn : Fn) (first cap : Array Value) (w : World), (Instr.makeFunc fn first cap).run Tryd.prog w = .ok (.func fn first cap) w := fun _ _ _ _ => rfl
  obtain ⟨w2, hw2⟩ : ∃ w2, (w.alloc (.cells #[.pointer (some ⟨b, 0, none⟩)] 47)).alloc (.cells #[.int .i64 N] 3) = w2 := ⟨_, rfl⟩
  have hm : More w w2 := by rw [← hw2]; exact ((Below.refl _ w).alloc (Nat.le_refl _) _).alloc (by simp) _
  have ht := stay_rice base b V n a E w.heap.size (w.heap.size + 1) w2 (h.more hm) hE
  have HW := Hid.mk hw2
  clear h hE hw2
  go_enter Tryd.func28, Tryd.ntmps28
  go_wp2_with (go_at_call 51; rw [HW.out]; refine ht.mono ?_; rintro e w1 ⟨rfl, hw⟩; subst w1)
  go_ret
  exact ⟨rfl, hm⟩

set_option maxRecDepth 1000000 in
theorem no_rice (N : Int) (w : World) : Calls Tryd.prog 28 #[.pointer none, .int .i64 N] w fun e w' => e = .returned (.int .u64 0) ∧ More w w' := by
  have hmf : ∀ (fn : Fn) (first cap : Array Value) (w : World), (Instr.makeFunc fn first cap).run Tryd.prog w = .ok (.func fn first cap) w := fun _ _ _ _ => rfl
  go_enter Tryd.func28, Tryd.ntmps28
  go_wp2_with (go_at_call 51; refine (nil_rice _ _ _).mono ?_; rintro e w1 ⟨rfl, hw⟩; subst w1)
  go_ret
  exact ⟨rfl, ((Below.refl _ w).alloc (Nat.le_refl _) _).alloc (by simp) _⟩

set_option maxRecDepth 1000000 in
theorem rdr_left (base b V n a E : Nat) (w : World) (h : RdAt w base b V n a E) :
    Calls Tryd.prog 20 #[.pointer (some ⟨b, 0, none⟩)] w fun e w' => e = .returned (.int .i64 ((n - a : Nat) : Int)) ∧ ∃ j, w' = w.drewN j := by
  obtain ⟨rb, hb, hr⟩ := h.mem
  obtain ⟨c0, c1, c2, _, _⟩ := cells3_at hb
  have hl := fun m => row_len rb n (w.drewN m) (hr.rd.drewN m).c1
  have hle := h.le
  have hlen := hr.len
  have hsub : (n : Int) - (a : Int) = ((n - a : Nat) : Int) := by omega
  clear h hb hr
  generalize n - a = d at *
  have hd : (d : Int) ≤ 1099511627776 := by omega
  go_enter Tryd.func20, Tryd.ntmps20
  go_wp2
  go_quiet ((go_at_call 12; exact Calls.quiet_of_same (hl _)))
  go_wp2
  go_ret
  exact ⟨rfl, _, rfl⟩

theorem no_left (w : World) : Calls Tryd.prog 20 #[.pointer none] w fun e w' => e = .returned (.int .i64 0) ∧ w' = w := by
  go_enter Tryd.func20, Tryd.ntmps20
  go_wp2
  go_ret
  exact ⟨rfl, rfl⟩

theorem rdr_err (base b V n a E : Nat) (w : World) (h : RdAt w base b V n a E) :
    Calls Tryd.prog 21 #[.pointer (some ⟨b, 0, none⟩)] w fun e w' => e = .returned (.int .i64 E) ∧ w' = w := by
  obtain ⟨rb, hb, hr⟩ := h.mem
  obtain ⟨c0, c1, c2, _, _⟩ := cells3_at hb
  clear h hb hr
  go_enter Tryd.func21, Tryd.ntmps21
  go_wp2
  go_ret
  exact ⟨rfl, rfl⟩

theorem no_err (w : World) : Calls Tryd.prog 21 #[.pointer none] w fun e w' => e = .returned (.int .i64 11) ∧ w' = w := by
  go_enter Tryd.func21, Tryd.ntmps21
  go_wp2
  go_ret
  exact ⟨rfl, rfl⟩

/-- What End tells. -/
def endE (n a E : Nat) : Nat := if E = 0 ∧ a < n then 3 else E

set_option maxRecDepth 1000000 in
theorem rdr_end (base b V n a E : Nat) (w : World) (h : RdAt w base b V n a E) :
    Calls Tryd.prog 22 #[.pointer (some ⟨b, 0, none⟩)] w fun e w' => e = .returned (.int .i64 (endE n a E : Nat)) ∧ ∃ j, w' = w.drewN j := by
  have he := rdr_err base b V n a E w h
  have hl := rdr_left base b V n a E w h
  by_cases h0 : E = 0
  · subst h0
    by_cases h1 : a < n
    · rw [show endE n a 0 = 3 by simp [endE, h1]]
      have hd : 0 < n - a := by omega
      generalize n - a = d at *
      clear h
      go_enter Tryd.func22, Tryd.ntmps22
      go_wp2_with (first
        | (go_at_call 21; refine he.mono ?_; rintro e w' ⟨rfl, hw'⟩; subst w')
        | (go_at_call 20; refine hl.mono ?_; rintro e w' ⟨rfl, m, hw'⟩; subst w'))
      go_ret
      exact ⟨rfl, _, rfl⟩
    · rw [show endE n a 0 = 0 by simp [endE, h1]]
      have hd : n - a = 0 := by omega
      rw [hd] at hl
      clear h
      go_enter Tryd.func22, Tryd.ntmps22
      go_wp2_with (first
        | (go_at_call 21; refine he.mono ?_; rintro e w' ⟨rfl, hw'⟩; subst w')
        | (go_at_call 20; refine hl.mono ?_; rintro e w' ⟨rfl, m, hw'⟩; subst w'))
      go_ret
      exact ⟨rfl, _, rfl⟩
  · rw [show endE n a E = E by simp [endE, h0]]
    have hne : ((E : Int) != 0) = true := by simp; omega
    clear h hl
    go_enter Tryd.func22, Tryd.ntmps22
    go_wp2_with (go_at_call 21; refine he.mono ?_; rintro e w' ⟨rfl, hw'⟩; subst w')
    go_ret
    exact ⟨rfl, 0, rfl⟩

theorem no_end (w : World) : Calls Tryd.prog 22 #[.pointer none] w fun e w' => e = .returned (.int .i64 11) ∧ w' = w := by
  go_enter Tryd.func22, Tryd.ntmps22
  go_wp2_with (go_at_call 21; refine (no_err _).mono ?_; rintro e w' ⟨rfl, hw'⟩; subst w')
  go_ret
  exact ⟨rfl, rfl⟩

end Go.Proofs.YtgcjbkcfcklcfaaDoor
