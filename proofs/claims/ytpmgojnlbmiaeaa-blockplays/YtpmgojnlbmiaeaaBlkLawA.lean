/-
  Law 17: the example; nil's calls; the program's store beside the document's.
-/
import Derived.Test.YtpmgojnlbmiaeaaBlkL
namespace Go.Proofs.Ytpmgojnlbmiaeaa
open Go.RowKit

section
variable {w : World} {base b size most N : Nat} {tk : Nat → Bool} {tx : Nat → List UInt8}
theorem sx_Size (h : SX w base b size most N tk tx) : Calls Try.prog 15 #[.pointer (some ⟨b, 0, none⟩)] w fun e w' => e = .returned (.int .i64 size) ∧ w' = w := by
  obtain ⟨_, _, _, _, h⟩ := h
  exact st_Size h
theorem sx_Peak (h : SX w base b size most N tk tx) : Calls Try.prog 12 #[.pointer (some ⟨b, 0, none⟩)] w fun e w' => e = .returned (.int .i64 N) ∧ w' = w := by
  obtain ⟨_, _, _, _, h⟩ := h
  exact st_Peak h
theorem sx_Used (h : SX w base b size most N tk tx) : Calls Try.prog 9 #[.pointer (some ⟨b, 0, none⟩)] w fun e w' => e = .returned (.int .i64 (cnt tk N)) ∧ ∃ q, w' = w.drewN q := by
  obtain ⟨_, _, _, _, h⟩ := h
  exact st_Used h
theorem sx_Left (h : SX w base b size most N tk tx) : Calls Try.prog 11 #[.pointer (some ⟨b, 0, none⟩)] w fun e w' => e = .returned (.int .i64 ((most : Int) - cnt tk N)) ∧ ∃ q, w' = w.drewN q := by
  obtain ⟨_, _, _, _, h⟩ := h
  exact st_Left h
theorem sx_Alloc (h : SX w base b size most N tk tx) (hc : cnt tk N < most) {a : Nat} (hf : First tk N a) :
    Calls Try.prog 16 #[.pointer (some ⟨b, 0, none⟩)] w fun e w' => e = .returned (.tuple #[.int .i64 a, .int .i64 0]) ∧ SX w' base b size most (max N (a + 1)) (upd tk a true) (upd tx a []) ∧ KeepsT BT base w w' := by
  refine (st_Alloc h hc).mono ?_
  rintro e w' ⟨a', rfl, h1, h2, h3⟩
  obtain rfl := h1.same hf
  exact ⟨rfl, h2, h3⟩
end

set_option maxHeartbeats 1000000 in
set_option maxRecDepth 1000000 in
theorem live_true (w : World) : Calls Try.prog 6 #[] w fun e w' => e = .returned (.bool true) ∧ More w w' := by
  have hnw := st_New 4 2 (by decide) (by decide) (by decide) (by decide) (fun _ => false) (fun _ => []) w
  have T1 : Hid True := trivial
  have T2 : Hid True := trivial
  go_enter Try.func6, Try.ntmps6
  go_wp2_with (first
    | (go_at_call 7; refine hnw.mono ?_; clear hnw; rintro e w1 ⟨rfl, hS1, hm1⟩; have hA1 := sx_Alloc hS1 (by decide) (a := 0) ⟨by decide, fun i hi => by omega, fun h => by omega⟩; have H1 := Hid.mk hm1; clear hS1 hm1)
    | (go_at_call 16; refine hA1.mono ?_; clear hA1; rintro e w2 ⟨rfl, hS2, hK2⟩; have hA2 := sx_Alloc hS2 (by decide) (a := 1) ⟨by decide, fun i hi => by (obtain rfl : i = 0 := (by omega)); rfl, fun h => by (exact absurd h (by decide))⟩; have H2 := Hid.mk (Below.trans H1.out hK2.below); clear hS2 hK2)
    | (go_at_call 16; refine hA2.mono ?_; clear hA2; rintro e w3 ⟨rfl, hS3, hK3⟩; have hFr := st_Free hS3 (k := 0) (by decide) (by rfl); have H3 := Hid.mk (Below.trans H2.out hK3.below); clear hS3 hK3)
    | (go_at_call 18; refine hFr.mono ?_; clear hFr; rintro e w4 ⟨rfl, hS4, hK4⟩; have hA5 := sx_Alloc hS4 (by decide) (a := 0) ⟨by decide, fun i hi => by omega, fun h => by rfl⟩; have H4 := Hid.mk (Below.trans H3.out hK4.below); clear hS4 hK4)
    | (go_at_call 16; refine hA5.mono ?_; clear hA5; rintro e w5 ⟨rfl, hS5, hK5⟩; have hPk := sx_Peak hS5; have H5 := Hid.mk (Below.trans H4.out hK5.below); clear hS5 hK5)
    | (go_at_call 12; refine hPk.mono ?_; clear hPk; rintro e w6 ⟨rfl, hw6⟩; subst w6))
  go_ret
  exact ⟨rfl, H5.out⟩

set_option maxHeartbeats 1000000 in
set_option maxRecDepth 1000000 in
theorem blockNone (kd id : Int) (s : ByteArray) (w : World) : Calls Try.prog 5 #[.agg #[.int .i64 kd, .int .i64 id, .string s]] w fun e w' => e = .returned (.bool true) ∧ More w w' := by
  have he : (bs []).toList = [] := by rw [ByteArray.toList_eq]; simp [bs]
  go_enter Try.func5, Try.ntmps5
  go_wp2_with (first
    | (go_at_call 16; refine (no_Alloc _).mono ?_; rintro e w1 ⟨rfl, hw1⟩; subst w1)
    | (go_at_call 13; refine (no_Read _ _).mono ?_; rintro e w1 ⟨rfl, hw1⟩; subst w1)
    | (go_at_call 17; refine (no_Write _ _ _).mono ?_; rintro e w1 ⟨rfl, hw1⟩; subst w1)
    | (go_at_call 18; refine (no_Free _ _).mono ?_; rintro e w1 ⟨rfl, hw1⟩; subst w1)
    | (go_at_call 15; refine (no_Size _).mono ?_; rintro e w1 ⟨rfl, hw1⟩; subst w1)
    | (go_at_call 9; refine (no_Used _).mono ?_; rintro e w1 ⟨rfl, hw1⟩; subst w1)
    | (go_at_call 11; refine (no_Left _).mono ?_; rintro e w1 ⟨rfl, hw1⟩; subst w1)
    | (go_at_call 12; refine (no_Peak _).mono ?_; rintro e w1 ⟨rfl, hw1⟩; subst w1)
    | (go_at_call 6; refine (live_true _).mono ?_; rintro e w5 ⟨rfl, hm⟩; have H5 := Hid.mk hm; clear hm))
  go_ret
  exact ⟨rfl, More.trans (more_alloc w _) H5.out⟩

/-- What a step of one of the two leaves of the other. -/
theorem own_keeps {T : TypeId → Prop} {w w' : World} {base base' e s n : Nat} {v : Value} {xs : List Value} (h : w.ownsRow base e s v n xs) (k : KeepsT T base' w w') (hT : ¬ T e) : w'.ownsRow base e s v n xs :=
  ⟨h.1, h.2.imp id fun ⟨g, cap, cur, hv, h1, hg, hr⟩ => ⟨g, cap, cur, hv, h1, k.other _ _ _ _ hT hg, hr⟩⟩
theorem Doc.keptB {w w' : World} {base base' x size most n N p : Nat} {vt vk : Value} {tk : Nat → Bool} {u : Nat → List UInt8} (h : Doc w base x size most n N p vt vk tk u) (k : KeepsT BT base' w w') : Doc w' base x size most n N p vt vk tk u :=
  ⟨h.lo, Nat.le_trans h.sz k.below.size, k.other _ _ _ _ (by unfold BT; decide) h.box, own_keeps h.txt k (by unfold BT; decide), own_keeps h.tak k (by unfold BT; decide)⟩
theorem SX.keptD {w w' : World} {base base' b size most N : Nat} {tk : Nat → Bool} {tx : Nat → List UInt8} (h : SX w base b size most N tk tx) (k : KeepsT DT base' w w') : SX w' base b size most N tk tx := by
  obtain ⟨vo, vf, vb, F, ⟨h1, h2, h3, h4⟩⟩ := h
  refine ⟨vo, vf, vb, F, ⟨⟨h1.lo, Nat.le_trans h1.sz k.below.size, k.other _ _ _ _ (by unfold DT; decide) h1.box, own_keeps h1.row k (by unfold DT; decide), own_keeps h1.free k (by unfold DT; decide), fun i hi => ?_, h1.apart⟩, h2, h3, h4⟩⟩
  obtain ⟨m, xs, q1, q2, q3⟩ := h1.byt i hi
  exact ⟨m, xs, q1, own_keeps q2 k (by unfold DT; decide), q3⟩
/-- The program's store and the document's, of the same blocks. -/
structure Both (w : World) (base b x size most N : Nat) (tk : Nat → Bool) (tx u : Nat → List UInt8) : Prop where
  prog : SX w base b size most N tk tx
  doc : ∃ vt vk, Doc w base x size most N N N vt vk tk u
  same : ∀ i, i < N → tk i = true → tx i = u i
theorem Both.more {w w' : World} {base b x size most N : Nat} {tk : Nat → Bool} {tx u : Nat → List UInt8} (h : Both w base b x size most N tk tx u) (k : More w w') : Both w' base b x size most N tk tx u := by
  obtain ⟨vt, vk, hd⟩ := h.doc
  exact ⟨h.prog.more k, ⟨vt, vk, hd.more k⟩, h.same⟩
end Go.Proofs.Ytpmgojnlbmiaeaa
