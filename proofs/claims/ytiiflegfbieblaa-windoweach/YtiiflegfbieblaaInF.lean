/-
  intern: New, Put, Find, Text, Len, Slots; of nil; the document's Put.
-/
import Derived.Test.YtiiflegfbieblaaInE
import Derived.OwnWalk
namespace Go.Proofs.Ytiiflegfbieblaa
open Go.RowKit Go.Shelf
attribute [local go_sem] Oper.semAt_some

/-- A table of some texts, in the blocks D. -/
def Tab (w : World) (D : Nat → Prop) (b : Nat) (ts : List (List UInt8)) : Prop :=
  ∃ vk vh vd f, Tb w D b vk vh vd ts (ts.map hashN) (slN ts.length) f ∧ Slt (slN ts.length) (hOf ts) f ts.length ∧ ts.Nodup
variable {w w' : World} {D : Nat → Prop} {b : Nat} {ts : List (List UInt8)}
theorem Tab.more (h : Tab w D b ts) (k : More w w') : Tab w' D b ts := by
  obtain ⟨vk, vh, vd, f, h1, h2, h3⟩ := h
  exact ⟨vk, vh, vd, f, h1.more k, h2, h3⟩
theorem Tab.stay {C : Nat → Prop} (h : Tab w D b ts) (k : Stay C w w') (hC : ∀ j, D j → C j) : Tab w' D b ts := by
  obtain ⟨vk, vh, vd, f, h1, h2, h3⟩ := h
  exact ⟨vk, vh, vd, f, h1.stay k hC, h2, h3⟩
theorem Tab.wi (h : Tab w D b ts) : ∀ k, D k → k < w.heap.size := by
  obtain ⟨vk, vh, vd, f, h1, h2, h3⟩ := h
  exact h1.wi
theorem Tab.nodup (h : Tab w D b ts) : ts.Nodup := by
  obtain ⟨vk, vh, vd, f, h1, h2, h3⟩ := h
  exact h3

theorem Tab.of_add {vk vh vd : Value} {s : List UInt8} {f : Nat → Nat} (h : Tb w D b vk vh vd (ts ++ [s]) ((ts ++ [s]).map hashN) (slN (ts.length + 1)) f) (hS : Slt (slN (ts.length + 1)) (hOf (ts ++ [s])) f (ts.length + 1)) (hd : (ts ++ [s]).Nodup) : Tab w D b (ts ++ [s]) := by
  have e : (ts ++ [s]).length = ts.length + 1 := by rw [List.length_append, List.length_singleton]
  exact ⟨vk, vh, vd, f, by rw [e]; exact h, by rw [e]; exact hS, hd⟩

set_option maxRecDepth 1000000 in
theorem in_new (w : World) : Calls Try.prog 46 #[] w fun e w' => e = .returned (.pointer (some ⟨w.heap.size, 0, none⟩)) ∧ More w w' ∧ ∃ D, Tab w' D w.heap.size [] ∧ ∀ j, D j → w.heap.size ≤ j := by
  obtain ⟨wa, hwa⟩ : ∃ wa, w.alloc (.cells #[.slice none 0 0, .slice none 0 0, .slice none 0 0] 86) = wa := ⟨_, rfl⟩
  have hs : wa.heap.size = w.heap.size + 1 := by rw [← hwa]; simp
  have hm : More w wa := by rw [← hwa]; exact more_alloc _ _
  have hT : Tb wa (fun j => j = w.heap.size) w.heap.size (.slice none 0 0) (.slice none 0 0) (.slice none 0 0) [] [] 0 (fun _ => 0) :=
    ⟨by rw [← hwa]; exact heap_alloc_new _ _, World.ownsRow_nil _ _ _ _, World.ownsRow_nil _ _ _ _, World.ownsRow_nil _ _ _ _, rfl, fun j h => by simp [Value.ownBlock] at h, fun j h => by simp [Value.ownBlock] at h, fun j h => by simp [Value.ownBlock] at h, fun k hk => by omega⟩
  have hsp := in_spread wa _ w.heap.size 0 8 3 _ _ _ [] [] _ hT rfl (by omega) (by decide) (by simp)
  have H := Hid.mk hm
  clear hT hm
  go_enter Try.func46, Try.ntmps46
  go_wp2_with (go_at_call 64; refine hsp.mono ?_; rintro e w6 ⟨⟨v, rfl⟩, vd', f', D', hT6, hS6, hO6, hD6⟩; have H6 := Hid.mk (And.intro hT6 (And.intro hS6 (And.intro hO6 hD6))); clear hT6 hS6 hO6 hD6 hsp)
  go_ret
  refine ⟨rfl, More.trans' H.out H6.out.2.2.1 (fun j hj => by omega), D', ⟨_, _, vd', f', H6.out.1, H6.out.2.1.ext fun i hi => by simp at hi, List.nodup_nil⟩, fun j hj => (H6.out.2.2.2 j hj).elim (fun h => by omega) fun h => by omega⟩

/-- What a put tells. -/
def told (ts : List (List UInt8)) (s : List UInt8) : Value := .tuple #[.int .i64 (fnd (putN ts s) s), .bool (decide (s ∉ ts))]

set_option maxRecDepth 1000000 in
set_option maxHeartbeats 4000000 in
theorem in_Put (n : Nat) (hn : 16 ≤ n) (w : World) (D : Nat → Prop) (b : Nat) (ts : List (List UInt8)) (s : List UInt8) (hT : Tab w D b ts) (hN : ts.length ≤ 100000) (hs : s.length ≤ 281474976710656) :
    CallsIn Fence.wide n Try.prog 33 #[.pointer (some ⟨b, 0, none⟩), .string (bs s)] w fun e w' => e = .returned (told ts s) ∧ ∃ D', Tab w' D' b (putN ts s) ∧ Off D w w' ∧ ∀ j, D' j → D j ∨ w.heap.size ≤ j := by
  have h1 : 1 ≤ n := by omega
  obtain ⟨vk, vh, vd, f, hTb, hS, hd⟩ := hT
  have hh := fun w => in_hash s hs w
  obtain ⟨k, hk, hkm⟩ := slN_k ts.length (by omega)
  have hfd := in_find 16 (Nat.le_refl _) w D b (slN ts.length) k vk vh vd ts s f hTb hS hd (by omega) hk hkm
  have HT := Hid.mk (And.intro hTb (And.intro hS hd))
  clear hTb hS hd hkm
  by_cases hm : s ∈ ts
  · have hto : told ts s = .tuple #[.int .i64 (fnd ts s), .bool false] := by
      unfold told; rw [put_tells, if_pos hm, decide_eq_false (fun h => h hm)]
    have hp := putN_in hm
    rw [hto, hp]
    have hge : 0 ≤ fnd ts s := by rw [fnd_some hm]; omega
    obtain ⟨F, hF⟩ : ∃ F, fnd ts s = F := ⟨_, rfl⟩
    rw [hF] at hfd hge ⊢
    clear hto hp hm hF
    refine callsIn_of_wp Try.func33 rfl trivial ?_ rfl
    simp only [Try.ntmps33, List.size_toArray, List.length_cons, List.length_nil, Nat.reduceAdd, Nat.reduceSub, Array.replicate_succ, Array.replicate_zero, List.push_toArray, List.append_toArray, List.nil_append, List.cons_append]
    gi_wp2_with (first
      | (refine ⟨trivial, ?_⟩; gi_at_call 52; refine (callsIn_wide.2 (hh _)).mono ?_; rintro e w' ⟨rfl, hw'⟩; subst w')
      | (refine ⟨trivial, ?_⟩; gi_at_call 53; refine (callsIn_wide.2 (callsIn_wide.1 hfd)).mono ?_; rintro e w' ⟨rfl, hm⟩; have HM := Hid.mk hm; clear hm hfd))
    go_ret2
    exact ⟨rfl, D, ⟨_, _, _, f, HT.out.1.more HM.out, HT.out.2.1, HT.out.2.2⟩, Off.of_more HM.out, fun j hj => .inl hj⟩
  · have hto : told ts s = .tuple #[.int .i64 ts.length, .bool true] := by
      unfold told; rw [put_tells, if_neg hm, decide_eq_true hm]
    have hp := putN_new hm
    rw [hto, hp]
    rw [fnd_none hm] at hfd
    have hdn : (ts ++ [s]).Nodup := by rw [← hp]; exact putN_nodup HT.out.2.2 s
    have HD := Hid.mk hdn
    have hcl := fun w => cl_clone s w hs
    clear hto hp hm hdn
    refine callsIn_of_wp Try.func33 rfl trivial ?_ rfl
    simp only [Try.ntmps33, List.size_toArray, List.length_cons, List.length_nil, Nat.reduceAdd, Nat.reduceSub, Array.replicate_succ, Array.replicate_zero, List.push_toArray, List.append_toArray, List.nil_append, List.cons_append]
    gi_wp2_with (first
      | (refine ⟨trivial, ?_⟩; gi_at_call 52; refine (callsIn_wide.2 (hh _)).mono ?_; rintro e w' ⟨rfl, hw'⟩; subst w')
      | (refine ⟨trivial, ?_⟩; gi_at_call 53; refine (callsIn_wide.2 (callsIn_wide.1 hfd)).mono ?_; rintro e w1 ⟨rfl, hm⟩; have HM := Hid.mk hm; clear hm hfd))
    refine region_detN 6 21 3 [.pointer (some ⟨b, 0, none⟩), .pointer (some ⟨b, 0, none⟩), .pointer (some ⟨b, 0, none⟩), .string (bs s), .string (bs s), .int .u64 (hashN s)]
      { tmps := #[.pointer (some ⟨b, 0, none⟩), .string (bs s), undef, undef, .int .i64 0, .bool false, .int .u64 (hashN s), .int .i64 (-1), .pointer (some ⟨b, 0, none⟩), .bool false, .string (bs s), .int .u64 (hashN s), .pointer (some ⟨b, 0, none⟩), .pointer (some ⟨b, 0, none⟩), .pointer (some ⟨b, 0, none⟩), .string (bs s), .int .u64 (hashN s), .int .i64 (-1), .int .i64 (-1), .bool false, undef, .pointer (some ⟨b, 0, none⟩), .pointer (some ⟨b, 0, none⟩), .pointer (some ⟨b, 0, none⟩), .string (bs s), .string (bs s), .int .u64 (hashN s), undef], defers := [] }
      (fun w' => More w1 w') (by kernel_rfl) (detN_of (by kernel_rfl)) (by kernel_rfl) (Nat.le_of_ble_eq_true (by kernel_rfl)) (More.drewN w1 1) ?step ?fin
    case step =>
      rintro e he w' hw
      have HW := Hid.mk hw
      clear hw
      rcases (show e = 0 ∨ e = 1 ∨ e = 2 ∨ e = 3 ∨ e = 4 ∨ e = 5 by omega) with rfl | rfl | rfl | rfl | rfl | rfl
      all_goals
        refine wpOpIn_step rfl (fun K hK => ?_)
        go_simp
      · exact hK _ _ ⟨rfl, rfl, HW.out⟩
      · exact hK _ _ ⟨rfl, rfl, HW.out⟩
      · exact hK _ _ ⟨rfl, rfl, HW.out⟩
      · exact hK _ _ ⟨rfl, rfl, HW.out⟩
      · refine ⟨trivial, (callsIn_wide.2 (hcl _)).mono ?_⟩
        rintro e w'' ⟨rfl, hm⟩
        exact hK _ _ ⟨rfl, rfl, More.trans HW.out hm⟩
      · exact hK _ _ ⟨rfl, rfl, HW.out⟩
    case fin =>
      rintro w' hw
      have hmw := More.trans HM.out hw
      have hal := in_add w' D b vk vh vd ts s f (HT.out.1.more hmw) HT.out.2.1 hN
      have HW := Hid.mk hmw
      clear hw hmw hcl
      refine wpOpIn_step rfl (fun K hK => ?_)
      go_simp
      refine ⟨trivial, (callsIn_wide.2 hal).mono ?_⟩
      rintro e w2 ⟨rfl, vk', vh', vd', f', D', hT2, hS2, hO2, hD2⟩
      refine hK _ _ ?_
      have H2 := Hid.mk (And.intro hT2 (And.intro hS2 (And.intro hO2 hD2)))
      clear hK hT2 hS2 hO2 hD2 hal
      refine wpOpIn_step rfl (fun K hK => ?_)
      go_simp
      refine hK _ _ ?_
      clear hK
      refine wpOpIn_step rfl (fun K hK => ?_)
      go_simp
      refine hK _ _ ?_
      clear hK
      unfold tailIn
      gi_wp2
      go_ret2
      exact ⟨rfl, D', Tab.of_add H2.out.1 H2.out.2.1 HD.out, (Off.of_more HW.out).trans H2.out.2.2.1 (fun j h => .inl h), fun j hj => (H2.out.2.2.2 j hj).imp id fun h => Nat.le_trans HW.out.size h⟩

set_option maxRecDepth 1000000 in
set_option maxHeartbeats 4000000 in
theorem in_Find (n : Nat) (hn : 16 ≤ n) (w : World) (D : Nat → Prop) (b : Nat) (ts : List (List UInt8)) (s : List UInt8) (hT : Tab w D b ts) (hN : ts.length ≤ 100000) (hs : s.length ≤ 281474976710656) :
    CallsIn Fence.wide n Try.prog 51 #[.pointer (some ⟨b, 0, none⟩), .string (bs s)] w fun e w' => e = .returned (.int .i64 (fnd ts s)) ∧ More w w' := by
  have h1 : 1 ≤ n := by omega
  obtain ⟨vk, vh, vd, f, hTb, hS, hd⟩ := hT
  have hh := fun w => in_hash s hs w
  obtain ⟨k, hk, hkm⟩ := slN_k ts.length (by omega)
  have HT := Hid.mk (And.intro hTb (And.intro hS (And.intro hd hkm)))
  clear hTb hS hd hkm
  obtain ⟨R, hR⟩ : ∃ R, fnd ts s = R := ⟨_, rfl⟩
  rw [hR]
  have HR := Hid.mk hR
  clear hR
  refine callsIn_of_wp Try.func51 rfl trivial ?_ rfl
  simp only [Try.ntmps51, List.size_toArray, List.length_cons, List.length_nil, Nat.reduceAdd, Nat.reduceSub, Array.replicate_succ, Array.replicate_zero, List.push_toArray, List.append_toArray, List.nil_append, List.cons_append]
  gi_wp2
  refine region_detN 6 7 2 [.pointer (some ⟨b, 0, none⟩), .pointer (some ⟨b, 0, none⟩), .pointer (some ⟨b, 0, none⟩), .string (bs s), .string (bs s), .int .u64 (hashN s)]
    { tmps := #[.pointer (some ⟨b, 0, none⟩), .string (bs s), undef, undef, .int .i64 0, .pointer (some ⟨b, 0, none⟩), .bool false, .pointer (some ⟨b, 0, none⟩), .pointer (some ⟨b, 0, none⟩), .pointer (some ⟨b, 0, none⟩), .string (bs s), .string (bs s), .int .u64 (hashN s), undef], defers := [] }
    (fun w' => More w w') (by kernel_rfl) (detN_of (by kernel_rfl)) (by kernel_rfl) (Nat.le_of_ble_eq_true (by kernel_rfl)) (More.drewN w 1) ?step ?fin
  case step =>
    rintro e he w' hw
    have HW := Hid.mk hw
    clear hw
    rcases (show e = 0 ∨ e = 1 ∨ e = 2 ∨ e = 3 ∨ e = 4 ∨ e = 5 by omega) with rfl | rfl | rfl | rfl | rfl | rfl
    all_goals
      refine wpOpIn_step rfl (fun K hK => ?_)
      go_simp
    · exact hK _ _ ⟨rfl, rfl, HW.out⟩
    · exact hK _ _ ⟨rfl, rfl, HW.out⟩
    · exact hK _ _ ⟨rfl, rfl, HW.out⟩
    · exact hK _ _ ⟨rfl, rfl, HW.out⟩
    · exact hK _ _ ⟨rfl, rfl, HW.out⟩
    · refine ⟨trivial, (callsIn_wide.2 (hh _)).mono ?_⟩
      rintro e w'' ⟨rfl, hw⟩
      subst w''
      exact hK _ _ ⟨rfl, rfl, HW.out⟩
  case fin =>
    rintro w' hw
    have hfd := in_find 16 (Nat.le_refl _) w' D b (slN ts.length) k vk vh vd ts s f (HT.out.1.more hw) HT.out.2.1 HT.out.2.2.1 (by omega) hk HT.out.2.2.2
    rw [HR.out] at hfd
    have HW := Hid.mk hw
    clear hw hh
    refine wpOpIn_step rfl (fun K hK => ?_)
    go_simp
    refine ⟨trivial, (callsIn_wide.2 (callsIn_wide.1 hfd)).mono ?_⟩
    rintro e w2 ⟨rfl, hm⟩
    refine hK _ _ ?_
    have H2 := Hid.mk hm
    clear hK hm hfd
    refine wpOpIn_step rfl (fun K hK => ?_)
    go_simp
    refine hK _ _ ?_
    clear hK
    unfold tailIn
    gi_wp2
    go_ret
    exact ⟨rfl, More.trans HW.out H2.out⟩

/-- The text of a number, and whether there is one. -/
def txt (ts : List (List UInt8)) (i : Int) : Value := if 0 ≤ i ∧ i < ts.length then .tuple #[.string (bs (ts.getD i.toNat [])), .bool true] else .tuple #[.string (bs []), .bool false]
/-! Of nil. -/
set_option maxRecDepth 1000000 in
theorem inn_Put (s : ByteArray) (w : World) : Calls Try.prog 33 #[.pointer none, .string s] w fun e w' => e = .returned (.tuple #[.int .i64 (-1), .bool false]) ∧ w' = w := by
  go_enter Try.func33, Try.ntmps33
  go_wp2
  go_ret2
  exact ⟨rfl, rfl⟩
set_option maxRecDepth 1000000 in
theorem inn_Find (s : ByteArray) (w : World) : Calls Try.prog 51 #[.pointer none, .string s] w fun e w' => e = .returned (.int .i64 (-1)) ∧ w' = w := by
  go_enter Try.func51, Try.ntmps51
  go_wp2
  go_ret
  exact ⟨rfl, rfl⟩
end Go.Proofs.Ytiiflegfbieblaa
