/-
  Law 17: a call, done by both.
-/
import Derived.Test.YtpmgojnlbmiaeaaBlkLawA
namespace Go.Proofs.Ytpmgojnlbmiaeaa
open Go.RowKit

/-- A call told as (a, b), whatever it does. -/
def Told (f : Nat) (args : Array Value) (T : TypeId → Prop) (base : Nat) (r : Value) (P : World → Prop) (w : World) : Prop :=
  Calls Try.prog f args w fun e w' => e = .returned r ∧ P w' ∧ KeepsT T base w w'
theorem act_cells (w : World) (x y z : Value) : (w.alloc (.cells #[x, y, z] 34)).cell? ⟨w.heap.size, 0, none⟩ = some x ∧ (w.alloc (.cells #[x, y, z] 34)).cell? ⟨w.heap.size, 1, none⟩ = some y ∧ (w.alloc (.cells #[x, y, z] 34)).cell? ⟨w.heap.size, 2, none⟩ = some z := by
  obtain ⟨h1, h2, h3, _⟩ := wcells3 (heap_alloc_new w (.cells #[x, y, z] 34))
  exact ⟨h1, h2, h3⟩
theorem not_BT : ¬ BT 34 := by unfold BT; decide
theorem not_DT : ¬ DT 34 := by unfold DT; decide

section
variable {w : World} {base b x : Nat} {kd id : Int} {s : Value} {Q1 Q2 : World → Prop}
set_option maxHeartbeats 2000000 in
set_option maxRecDepth 1000000 in
theorem does_alloc (hkd : kd = 0 ∨ kd = 1) (hb : base ≤ w.heap.size) (r er : Int)
    (hA : ∀ w', More w w' → Told 16 #[.pointer (some ⟨b, 0, none⟩)] BT base (.tuple #[.int .i64 r, .int .i64 er]) Q1 w')
    (hB : ∀ w', Q1 w' → Told 19 #[.pointer (some ⟨x, 0, none⟩)] DT base (.tuple #[.int .i64 r, .int .i64 er]) Q2 w') :
    Calls Try.prog 8 #[.pointer (some ⟨b, 0, none⟩), .pointer (some ⟨x, 0, none⟩), .agg #[.int .i64 kd, .int .i64 id, s]] w fun e w' => e = .returned (.bool true) ∧ Q2 w' ∧ Below base w w' := by
  have hm0 := more_alloc w (.cells #[.int .i64 kd, .int .i64 id, s] 34)
  obtain ⟨c0, _⟩ := act_cells w (.int .i64 kd) (.int .i64 id) s
  have hA0 := hA _ hm0
  have H0 := Hid.mk (hm0.mono hb)
  clear hA hm0
  rcases hkd with rfl | rfl
  all_goals
    go_enter Try.func8, Try.ntmps8
    go_wp2_with (first
      | (go_at_call 16; refine hA0.mono ?_; clear hA0; rintro e w1 ⟨rfl, hQ, hK⟩; have hB1 := hB w1 hQ; have H1 := Hid.mk (Below.trans H0.out hK.below); clear hQ hK hB)
      | (go_at_call 19; refine hB1.mono ?_; clear hB1; rintro e w2 ⟨rfl, hQ, hK⟩; have H2 := Hid.mk (And.intro hQ (Below.trans H1.out hK.below)); clear hQ hK))
    go_ret
    exact ⟨rfl, H2.out.1, H2.out.2⟩
set_option maxHeartbeats 2000000 in
set_option maxRecDepth 1000000 in
theorem does_read (hb : base ≤ w.heap.size) (y : List UInt8) (er : Int)
    (hA : ∀ w', More w w' → Told 13 #[.pointer (some ⟨b, 0, none⟩), .int .i64 id] BT base (.tuple #[.string (bs y), .int .i64 er]) Q1 w')
    (hB : ∀ w', Q1 w' → Told 14 #[.pointer (some ⟨x, 0, none⟩), .int .i64 id] DT base (.tuple #[.string (bs y), .int .i64 er]) Q2 w') :
    Calls Try.prog 8 #[.pointer (some ⟨b, 0, none⟩), .pointer (some ⟨x, 0, none⟩), .agg #[.int .i64 3, .int .i64 id, s]] w fun e w' => e = .returned (.bool true) ∧ Q2 w' ∧ Below base w w' := by
  have hm0 := more_alloc w (.cells #[.int .i64 3, .int .i64 id, s] 34)
  have hbx := heap_alloc_new w (.cells #[.int .i64 3, .int .i64 id, s] 34)
  obtain ⟨c0, c1, _⟩ := act_cells w (.int .i64 3) (.int .i64 id) s
  have hA0 := hA _ hm0
  have H0 := Hid.mk (And.intro (hm0.mono hb) hbx)
  clear hA hm0 hbx
  go_enter Try.func8, Try.ntmps8
  go_wp2_with (first
    | (go_at_call 13; refine hA0.mono ?_; clear hA0; rintro e w1 ⟨rfl, hQ, hK⟩; have hB1 := hB w1 hQ; have hb1 := hK.other _ _ _ _ not_BT H0.out.2; obtain ⟨_, d1, _⟩ := wcells3 hb1; have H1 := Hid.mk (Below.trans H0.out.1 hK.below); clear hQ hK hB hb1 c0 c1)
    | (go_at_call 14; refine hB1.mono ?_; clear hB1; rintro e w2 ⟨rfl, hQ, hK⟩; have H2 := Hid.mk (And.intro hQ (Below.trans H1.out hK.below)); clear hQ hK))
  go_ret
  exact ⟨rfl, H2.out.1, H2.out.2⟩
theorem does_other (h0 : kd ≠ 0) (h1 : kd ≠ 1) (h2 : kd ≠ 2) (h3 : kd ≠ 3) (h4 : kd ≠ 4) :
    Calls Try.prog 8 #[.pointer (some ⟨b, 0, none⟩), .pointer (some ⟨x, 0, none⟩), .agg #[.int .i64 kd, .int .i64 id, s]] w fun e w' => e = .returned (.bool true) ∧ More w w' := by
  obtain ⟨c0, _⟩ := act_cells w (.int .i64 kd) (.int .i64 id) s
  have e0 : (kd == 0) = false := by simpa using h0
  have e1 : (kd == 1) = false := by simpa using h1
  have e2 : (kd == 2) = false := by simpa using h2
  have e3 : (kd == 3) = false := by simpa using h3
  have e4 : (kd == 4) = false := by simpa using h4
  go_enter Try.func8, Try.ntmps8
  go_wp2
  go_ret
  exact ⟨rfl, more_alloc w _⟩
set_option maxHeartbeats 2000000 in
set_option maxRecDepth 1000000 in
theorem does_write (hb : base ≤ w.heap.size) (er : Int) (t : ByteArray)
    (hA : ∀ w', More w w' → Told 17 #[.pointer (some ⟨b, 0, none⟩), .int .i64 id, .string t] BT base (.int .i64 er) Q1 w')
    (hB : ∀ w', Q1 w' → Told 20 #[.pointer (some ⟨x, 0, none⟩), .int .i64 id, .string t] DT base (.int .i64 er) Q2 w') :
    Calls Try.prog 8 #[.pointer (some ⟨b, 0, none⟩), .pointer (some ⟨x, 0, none⟩), .agg #[.int .i64 2, .int .i64 id, .string t]] w fun e w' => e = .returned (.bool true) ∧ Q2 w' ∧ Below base w w' := by
  have hm0 := more_alloc w (.cells #[.int .i64 2, .int .i64 id, .string t] 34)
  have hbx := heap_alloc_new w (.cells #[.int .i64 2, .int .i64 id, .string t] 34)
  obtain ⟨c0, c1, c2⟩ := act_cells w (.int .i64 2) (.int .i64 id) (.string t)
  have hA0 := hA _ (hm0.trans (More.drewN _ 1))
  have H0 := Hid.mk (And.intro ((hm0.trans (More.drewN _ 1)).mono hb) hbx)
  have hS0 : (w.alloc (.cells #[.int .i64 2, .int .i64 id, .string t] 34)).cell? ⟨w.heap.size, 1, none⟩ = some (.int .i64 id) ∧ (w.alloc (.cells #[.int .i64 2, .int .i64 id, .string t] 34)).cell? ⟨w.heap.size, 2, none⟩ = some (.string t) := ⟨c1, c2⟩
  clear hA hm0 hbx
  go_enter Try.func8, Try.ntmps8
  go_wp2_with fail
  go_region_held (fun w' => w'.cell? ⟨w.heap.size, 1, none⟩ = some (.int .i64 id) ∧ w'.cell? ⟨w.heap.size, 2, none⟩ = some (.string t))
    (first | assumption | exact hS0)
    (first
      | (go_at_call 17; refine hA0.mono ?_; clear hA0; rintro e w1 ⟨rfl, hQ, hK⟩; have hB1 := hB w1 hQ; have hb1 := hK.other _ _ _ _ not_BT H0.out.2; obtain ⟨_, d1, d2, _⟩ := wcells3 hb1; have hS1 := And.intro d1 d2; have H1 := Hid.mk (And.intro (Below.trans H0.out.1 hK.below) hb1); clear hQ hK hB hb1 c0 c1 c2)
      | (go_at_call 20; refine hB1.mono ?_; clear hB1; rintro e w2 ⟨rfl, hQ, hK⟩; have hb2 := hK.other _ _ _ _ not_DT H1.out.2; obtain ⟨_, d1, d2, _⟩ := wcells3 hb2; have hS2 := And.intro d1 d2; have H2 := Hid.mk (And.intro hQ (Below.trans H1.out.1 hK.below)); clear hQ hK hb2))
  all_goals
    go_wp2
    go_ret
    exact ⟨rfl, H2.out.1, H2.out.2⟩
set_option maxHeartbeats 2000000 in
set_option maxRecDepth 1000000 in
theorem does_free (hb : base ≤ w.heap.size) (er : Int)
    (hA : ∀ w', More w w' → Told 18 #[.pointer (some ⟨b, 0, none⟩), .int .i64 id] BT base (.int .i64 er) Q1 w')
    (hB : ∀ w', Q1 w' → Told 21 #[.pointer (some ⟨x, 0, none⟩), .int .i64 id] DT base (.int .i64 er) Q2 w') :
    Calls Try.prog 8 #[.pointer (some ⟨b, 0, none⟩), .pointer (some ⟨x, 0, none⟩), .agg #[.int .i64 4, .int .i64 id, s]] w fun e w' => e = .returned (.bool true) ∧ Q2 w' ∧ Below base w w' := by
  have hm0 := more_alloc w (.cells #[.int .i64 4, .int .i64 id, s] 34)
  have hbx := heap_alloc_new w (.cells #[.int .i64 4, .int .i64 id, s] 34)
  obtain ⟨c0, c1, _⟩ := act_cells w (.int .i64 4) (.int .i64 id) s
  have hA0 := hA _ (hm0.trans (More.drewN _ 1))
  have H0 := Hid.mk (And.intro ((hm0.trans (More.drewN _ 1)).mono hb) hbx)
  have hS0 : (w.alloc (.cells #[.int .i64 4, .int .i64 id, s] 34)).cell? ⟨w.heap.size, 1, none⟩ = some (.int .i64 id) := c1
  clear hA hm0 hbx
  go_enter Try.func8, Try.ntmps8
  go_wp2_with fail
  go_region_held (fun w' => w'.cell? ⟨w.heap.size, 1, none⟩ = some (.int .i64 id))
    (first | assumption | exact hS0)
    (first
      | (go_at_call 18; refine hA0.mono ?_; clear hA0; rintro e w1 ⟨rfl, hQ, hK⟩; have hB1 := hB w1 hQ; have hb1 := hK.other _ _ _ _ not_BT H0.out.2; obtain ⟨_, d1, d2, _⟩ := wcells3 hb1; have H1 := Hid.mk (And.intro (Below.trans H0.out.1 hK.below) hb1); clear hQ hK hB hb1 c0 c1)
      | (go_at_call 21; refine hB1.mono ?_; clear hB1; rintro e w2 ⟨rfl, hQ, hK⟩; have hb2 := hK.other _ _ _ _ not_DT H1.out.2; obtain ⟨_, d1, d2, _⟩ := wcells3 hb2; have H2 := Hid.mk (And.intro hQ (Below.trans H1.out.1 hK.below)); clear hQ hK hb2))
  all_goals
    go_wp2
    go_ret
    exact ⟨rfl, H2.out.1, H2.out.2⟩
end
end Go.Proofs.Ytpmgojnlbmiaeaa
