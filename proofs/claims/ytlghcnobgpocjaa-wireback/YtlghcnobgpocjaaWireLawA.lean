/-
  Law 10's live, write and read.
-/
import Derived.Test.YtlghcnobgpocjaaWireRefR
import Derived.Test.YtlghcnobgpocjaaWireTell
namespace Go.Proofs.Ytlghcnobgpocjaa
open Go.RowKit

/-- A part, as a value, and the box that it is laid into. -/
abbrev partV (kd : Int) (v : Nat) (N : Int) (s : List UInt8) : Value := .agg #[.int .i64 kd, .int .u64 v, .int .i64 N, .string (bs s)]
abbrev partO (kd : Int) (v : Nat) (N : Int) (s : List UInt8) : Obj := .cells #[.int .i64 kd, .int .u64 v, .int .i64 N, .string (bs s)] 32
/-- A part's bytes. -/
def prt (kd : Int) (v : Nat) (N : Int) (s : List UInt8) : List UInt8 :=
  if kd = 0 then num v else if kd = 1 then num (fold N) else if kd = 2 then num s.length ++ s else if kd = 3 then s else []
theorem prt_len {kd N : Int} {v : Nat} {s : List UInt8} (hv : v < 18446744073709551616) (hN : -9223372036854775808 ≤ N ∧ N ≤ 9223372036854775807) (hs : s.length ≤ 300) : (prt kd v N s).length ≤ 310 := by
  have h1 := (num_ten hv).1
  have h2 := (num_ten (fold_lt hN)).1
  have h3 := (num_ten (show s.length < 18446744073709551616 by omega)).1
  unfold prt
  split
  · omega
  · split
    · omega
    · split
      · rw [List.length_append]; omega
      · split
        · omega
        · simp

theorem box_w {w w' : World} {base b : Nat} {kd N : Int} {v : Nat} {s : List UInt8} (k : Keeps WT base w w') (h : w.heap[b]? = some (partO kd v N s)) : w'.heap[b]? = some (partO kd v N s) := k.other _ _ _ _ (by unfold WT; decide) h
theorem box_r {w w' : World} {base b : Nat} {kd N : Int} {v : Nat} {s : List UInt8} (k : Keeps RT base w w') (h : w.heap[b]? = some (partO kd v N s)) : w'.heap[b]? = some (partO kd v N s) := k.other _ _ _ _ (by unfold RT; decide) h
theorem box_x {w w' : World} {base b : Nat} {kd N : Int} {v : Nat} {s : List UInt8} (k : Keeps XT base w w') (h : w.heap[b]? = some (partO kd v N s)) : w'.heap[b]? = some (partO kd v N s) := k.other _ _ _ _ (by unfold XT; decide) h

set_option maxHeartbeats 1600000 in
set_option maxRecDepth 1000000 in
theorem live_true (w : World) : Calls Try.prog 8 #[] w fun e w' => e = .returned (.bool true) ∧ More w w' := by
  have h0 := Hid.mk (WrAt.new w)
  have e300 : num 300 = [172, 2] := by rw [num_great (by decide), num_small (by decide)]; rfl
  have e1 : num (fold (-1)) = [1] := by rw [show fold (-1) = 1 by decide, num_small (by decide)]; rfl
  have e2 : num ([97, 98] : List UInt8).length = [2] := by rw [show ([97, 98] : List UInt8).length = 2 by rfl, num_small (by decide)]; rfl
  have h1 := fun w1 (h : WrAt w1 w.heap.size w.heap.size []) => wr_num w.heap.size w.heap.size 300 [] w1 h (by decide) (by decide)
  rw [e300] at h1
  have h2 := fun w1 (h : WrAt w1 w.heap.size w.heap.size ([] ++ [172, 2])) => wr_int w.heap.size w.heap.size (-1) ([] ++ [172, 2]) w1 h (by decide) (by decide)
  rw [e1] at h2
  have h3 := fun w1 (h : WrAt w1 w.heap.size w.heap.size ([] ++ [172, 2] ++ [1])) => wr_text w.heap.size w.heap.size ([] ++ [172, 2] ++ [1]) [97, 98] w1 h (by decide) (by decide)
  rw [e2] at h3
  have h4 := fun w1 (h : WrAt w1 w.heap.size w.heap.size [172, 2, 1, 2, 97, 98]) => wr_bytes w.heap.size w.heap.size [172, 2, 1, 2, 97, 98] w1 h
  have h5 := fun w1 => rd_open [172, 2, 1, 2, 97, 98] (by decide) w1
  have q1 : st 0 0 (fst (([172, 2, 1, 2, 97, 98] : List UInt8).drop 0)) = (300, 2, 0) := by decide
  have q2 : st 0 0 (rdI (([172, 2, 1, 2, 97, 98] : List UInt8).drop 2)) = (-1, 1, 0) := by decide
  have q3 : st 0 [] (rdT (([172, 2, 1, 2, 97, 98] : List UInt8).drop 3) 2) = ([97, 98], 3, 0) := by decide
  have h6 := fun base b w1 h => rdr_num base b 0 2 0 0 300 [172, 2, 1, 2, 97, 98] w1 h q1
  have h7 := fun base b w1 h => rdr_int base b 2 1 0 0 (-1) [172, 2, 1, 2, 97, 98] w1 h q2
  have h8 := fun base b w1 h => rdr_text base b 3 3 0 0 [97, 98] 2 [172, 2, 1, 2, 97, 98] w1 h (by decide) q3
  have h9 := fun base b w1 h => rd_end base b 6 0 [172, 2, 1, 2, 97, 98] w1 h
  rw [show endE (List.drop 6 ([172, 2, 1, 2, 97, 98] : List UInt8)) 0 = 0 by decide] at h9
  have s1 : (bs [172, 2, 1, 2, 97, 98]).toList = [172, 2, 1, 2, 97, 98] := by rw [ByteArray.toList_eq]; rfl
  have s2 : (bs [97, 98]).toList = [97, 98] := by rw [ByteArray.toList_eq]; rfl
  clear q1 q2 q3 e300 e1 e2
  go_enter Try.func8, Try.ntmps8
  go_wp2_with (first
    | (go_at_call 21; refine (h1 _ h0.out).mono ?_; rintro e w1 ⟨rfl, ha, hb⟩; have H1 := Hid.mk (And.intro ha (Below.trans (More.alloc w _) hb.below)); clear ha hb)
    | (go_at_call 22; refine (h2 w1 H1.out.1).mono ?_; rintro e w2 ⟨rfl, ha, hb⟩; have H2 := Hid.mk (And.intro ha (Below.trans H1.out.2 hb.below)); clear ha hb)
    | (go_at_call 23; refine (h3 w2 H2.out.1).mono ?_; rintro e w3 ⟨rfl, ha, hb⟩; have H3 := Hid.mk (And.intro ha (Below.trans H2.out.2 hb.below)); clear ha hb)
    | (go_at_call 11; refine (h5 w3).mono ?_; rintro e w4 ⟨rfl, ha, hb⟩; have H4 := Hid.mk (And.intro ha (And.intro (H3.out.1.more hb) (Below.trans H3.out.2 (hb.mono H3.out.2.size)))); clear ha hb)
    | (go_at_call 10; first | (refine (h4 w3 H3.out.1).mono ?_; rintro e w' ⟨rfl, hw'⟩; subst w') | (refine (h4 w4 H4.out.2.1).mono ?_; rintro e w' ⟨rfl, hw'⟩; subst w'))
    | (go_at_call 17; refine (h6 w3.heap.size _ w4 H4.out.1).mono ?_; rintro e w5 ⟨rfl, ha, hb⟩; have H5 := Hid.mk (And.intro ha (Below.trans H4.out.2.2 (hb.below.mono H3.out.2.size))); clear ha hb)
    | (go_at_call 18; refine (h7 w3.heap.size _ w5 H5.out.1).mono ?_; rintro e w6 ⟨rfl, ha, hb⟩; have H6 := Hid.mk (And.intro ha (Below.trans H5.out.2 (hb.below.mono H3.out.2.size))); clear ha hb)
    | (go_at_call 19; refine (h8 w3.heap.size _ w6 H6.out.1).mono ?_; rintro e w7 ⟨rfl, ha, hb⟩; have H7 := Hid.mk (And.intro ha (Below.trans H6.out.2 (hb.below.mono H3.out.2.size))); clear ha hb)
    | (go_at_call 15; refine (h9 w3.heap.size _ w7 H7.out.1).mono ?_; rintro e w8 ⟨rfl, m, hw⟩; have H8 := Hid.mk (Below.trans H7.out.2 ((More.drewN w7 m).mono H7.out.2.size)); rw [← hw] at H8; clear hw))
  go_ret
  exact ⟨rfl, H8.out⟩

set_option maxHeartbeats 1600000 in
set_option maxRecDepth 1000000 in
theorem law_write (base b : Nat) (l : List UInt8) (kd : Int) (v : Nat) (N : Int) (s : List UInt8) (w : World) (h : WrAt w base b l) (hl : l.length ≤ 100000) (hv : v < 18446744073709551616) (hN : -9223372036854775808 ≤ N ∧ N ≤ 9223372036854775807) (hs : s.length ≤ 300) :
    Calls Try.prog 9 #[.pointer (some ⟨b, 0, none⟩), partV kd v N s] w fun e w' => e = .returned (.string (bs (prt kd v N s))) ∧ WrAt w' base b (l ++ prt kd v N s) ∧ Below base w w' := by
  have h1 : WrAt (w.alloc (partO kd v N s)) base b l := h.more (More.alloc _ _)
  have HB := Hid.mk (And.intro (heap_alloc_new w (partO kd v N s)) (And.intro ((More.alloc w (partO kd v N s)).mono h.sz) h.sz))
  by_cases k0 : kd = 0
  · subst k0
    rw [show prt 0 v N s = num v by simp [prt]]
    have hw := wr_num base b v l _ h1 (by omega) hv
    have hr := fun w => ref_num10 v hv w
    clear h h1
    go_enter Try.func9, Try.ntmps9
    go_wp2_with (first
      | (go_at_call 21; refine hw.mono ?_; rintro e w1 ⟨rfl, ha, hb⟩; have H1 := Hid.mk (And.intro ha hb.below); obtain ⟨d0, d1, d2, d3⟩ := cells4 (box_w hb HB.out.1); clear ha hb hw)
      | (go_at_call 24; refine (hr _).mono ?_; rintro e w2 ⟨rfl, hm⟩; have H2 := Hid.mk (And.intro (H1.out.1.more hm) (Below.trans HB.out.2.1 (Below.trans H1.out.2 (hm.mono H1.out.1.sz)))); clear hm))
    go_ret
    exact ⟨rfl, H2.out⟩
  by_cases k1 : kd = 1
  · subst k1
    rw [show prt 1 v N s = num (fold N) by simp [prt]]
    have hw := wr_int base b N l _ h1 (by omega) hN
    have hr := fun w => ref_int N hN w
    clear h h1
    go_enter Try.func9, Try.ntmps9
    go_wp2_with (first
      | (go_at_call 22; refine hw.mono ?_; rintro e w1 ⟨rfl, ha, hb⟩; have H1 := Hid.mk (And.intro ha hb.below); obtain ⟨d0, d1, d2, d3⟩ := cells4 (box_w hb HB.out.1); clear ha hb hw)
      | (go_at_call 25; refine (hr _).mono ?_; rintro e w2 ⟨rfl, hm⟩; have H2 := Hid.mk (And.intro (H1.out.1.more hm) (Below.trans HB.out.2.1 (Below.trans H1.out.2 (hm.mono H1.out.1.sz)))); clear hm))
    go_ret
    exact ⟨rfl, H2.out⟩
  by_cases k2 : kd = 2
  · subst k2
    rw [show prt 2 v N s = num s.length ++ s by simp [prt]]
    have hw := wr_text base b l s _ h1 (by omega) (by omega)
    have hr := fun w => ref_text s (by omega) w
    clear h h1
    go_enter Try.func9, Try.ntmps9
    go_wp2_with (first
      | (go_at_call 23; refine hw.mono ?_; rintro e w1 ⟨rfl, ha, hb⟩; have H1 := Hid.mk (And.intro ha hb.below); obtain ⟨d0, d1, d2, d3⟩ := cells4 (box_w hb HB.out.1); clear ha hb hw)
      | (go_at_call 26; refine (hr _).mono ?_; rintro e w2 ⟨rfl, hm⟩; have H2 := Hid.mk (And.intro (H1.out.1.more hm) (Below.trans HB.out.2.1 (Below.trans H1.out.2 (hm.mono H1.out.1.sz)))); clear hm))
    go_ret
    exact ⟨rfl, H2.out⟩
  by_cases k3 : kd = 3
  · subst k3
    rw [show prt 3 v N s = s by simp [prt]]
    have hw := wr_raw base b l s _ h1 (by omega) (by omega)
    clear h h1
    go_enter Try.func9, Try.ntmps9
    go_wp2_with (go_at_call 27; refine hw.mono ?_; rintro e w1 ⟨rfl, ha, hb⟩; have H1 := Hid.mk (And.intro ha (Below.trans HB.out.2.1 hb.below)); obtain ⟨d0, d1, d2, d3⟩ := cells4 (box_w hb HB.out.1); clear ha hb hw)
    go_ret
    exact ⟨rfl, H1.out⟩
  rw [show prt kd v N s = [] by simp [prt, k0, k1, k2, k3], List.append_nil]
  have n0 : (kd == 0) = false := by simp [k0]
  have n1 : (kd == 1) = false := by simp [k1]
  have n2 : (kd == 2) = false := by simp [k2]
  have n3 : (kd == 3) = false := by simp [k3]
  have H1 := Hid.mk h1
  clear h h1
  go_enter Try.func9, Try.ntmps9
  go_wp2
  go_ret
  exact ⟨rfl, H1.out, HB.out.2.1⟩

set_option maxHeartbeats 1600000 in
set_option maxRecDepth 1000000 in
theorem nil_write (kd : Int) (v : Nat) (N : Int) (s : List UInt8) (w : World) (hv : v < 18446744073709551616) (hN : -9223372036854775808 ≤ N ∧ N ≤ 9223372036854775807) (hs : s.length ≤ 300) :
    Calls Try.prog 9 #[.pointer none, partV kd v N s] w fun e w' => (∃ x, e = .returned (.string x)) ∧ More w w' := by
  have HB := Hid.mk (More.alloc w (partO kd v N s))
  by_cases k0 : kd = 0
  · subst k0
    have hr := fun w => ref_num10 v hv w
    go_enter Try.func9, Try.ntmps9
    go_wp2_with (first
      | (go_at_call 21; refine (nil_num v _).mono ?_; rintro e w' ⟨rfl, hw'⟩; subst w')
      | (go_at_call 24; refine (hr _).mono ?_; rintro e w2 ⟨rfl, hm⟩; have H2 := Hid.mk (HB.out.trans hm); clear hm))
    go_ret
    exact ⟨⟨_, rfl⟩, H2.out⟩
  by_cases k1 : kd = 1
  · subst k1
    have hr := fun w => ref_int N hN w
    go_enter Try.func9, Try.ntmps9
    go_wp2_with (first
      | (go_at_call 22; refine (nil_int N hN _).mono ?_; rintro e w' ⟨rfl, hw'⟩; subst w')
      | (go_at_call 25; refine (hr _).mono ?_; rintro e w2 ⟨rfl, hm⟩; have H2 := Hid.mk (HB.out.trans hm); clear hm))
    go_ret
    exact ⟨⟨_, rfl⟩, H2.out⟩
  by_cases k2 : kd = 2
  · subst k2
    have hr := fun w => ref_text s (by omega) w
    go_enter Try.func9, Try.ntmps9
    go_wp2_with (first
      | (go_at_call 23; refine (nil_text _ _).mono ?_; rintro e w' ⟨rfl, hw'⟩; subst w')
      | (go_at_call 26; refine (hr _).mono ?_; rintro e w2 ⟨rfl, hm⟩; have H2 := Hid.mk (HB.out.trans hm); clear hm))
    go_ret
    exact ⟨⟨_, rfl⟩, H2.out⟩
  by_cases k3 : kd = 3
  · subst k3
    go_enter Try.func9, Try.ntmps9
    go_wp2_with (go_at_call 27; refine (nil_raw _ _).mono ?_; rintro e w' ⟨rfl, hw'⟩; subst w')
    go_ret
    exact ⟨⟨_, rfl⟩, HB.out⟩
  have n0 : (kd == 0) = false := by simp [k0]
  have n1 : (kd == 1) = false := by simp [k1]
  have n2 : (kd == 2) = false := by simp [k2]
  have n3 : (kd == 3) = false := by simp [k3]
  go_enter Try.func9, Try.ntmps9
  go_wp2
  go_ret
  exact ⟨⟨_, rfl⟩, HB.out⟩

end Go.Proofs.Ytlghcnobgpocjaa
