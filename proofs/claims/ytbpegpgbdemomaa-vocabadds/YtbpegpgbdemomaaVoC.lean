/-
  vocab: take, Add.
-/
import Derived.Test.YtbpegpgbdemomaaVoB
namespace Go.Proofs.Ytbpegpgbdemomaa
open Go.RowKit Go.Shelf
attribute [local go_sem] Oper.semAt_some vo_field

theorem Off.more_after {D : Nat → Prop} {w w1 w2 : World} (h : More w w1) (k : Off D w1 w2) : Off D w w2 := (Off.of_more h).trans k fun _ hj => .inl hj

set_option maxRecDepth 1000000 in
set_option maxHeartbeats 4000000 in
theorem vo_take (w : World) (D : Nat → Prop) (b : Nat) (ts : List (List UInt8)) (s : List UInt8) (most : Int) (hT : Tab w D b ts) (hN : ts.length ≤ 100000) (hs : s.length ≤ 281474976710656) (hm : s ∈ ts ∨ (ts.length : Int) < most) :
    Calls Try.prog 43 #[.agg #[.pointer (some ⟨b, 0, none⟩)], .string (bs s), .int .i64 most] w fun e w' => e = .returned (.tuple #[.int .i64 (fnd (putN ts s) s), .int .i64 0]) ∧ ∃ D', Tab w' D' b (putN ts s) ∧ Off D w w' ∧ ∀ j, D' j → D j ∨ w.heap.size ≤ j := by
  obtain ⟨wa, hwa⟩ : ∃ wa, w.alloc (.cells #[.pointer (some ⟨b, 0, none⟩)] 55) = wa := ⟨_, rfl⟩
  have hma : More w wa := by rw [← hwa]; exact more_alloc _ _
  have bb : Boxed wa w.heap.size 55 (.pointer (some ⟨b, 0, none⟩)) := by rw [← hwa]; exact Boxed.new _ _ _
  have cb := bb.cell
  have hfd := callsIn_wide.1 (in_Find 16 (Nat.le_refl _) wa D b ts s (hT.more hma) hN hs)
  have HB := Hid.mk (And.intro bb hma)
  have HT := Hid.mk hT
  have hD : ∀ j, D j → j < w.heap.size := hT.wi
  have HD := Hid.mk hD
  clear bb hma hD hT
  by_cases hin : s ∈ ts
  · have hge : 0 ≤ fnd ts s := by rw [fnd_some hin]; omega
    have hp := putN_in hin
    rw [hp]
    obtain ⟨F, hF⟩ : ∃ F, fnd ts s = F := ⟨_, rfl⟩
    rw [hF] at hfd hge ⊢
    clear hin hm hp hF
    go_enter Try.func43, Try.ntmps43
    go_wp2_with (go_at_call 40; refine hfd.mono ?_; rintro e w2 ⟨rfl, hm2⟩; have H2 := Hid.mk hm2; clear hm2)
    go_ret2
    exact ⟨rfl, D, HT.out.more (More.trans HB.out.2 H2.out), Off.of_more (More.trans HB.out.2 H2.out), fun j hj => .inl hj⟩
  · have hlt : (ts.length : Int) < most := hm.resolve_left hin
    have hge : ¬ most ≤ (ts.length : Int) := by omega
    have hp := putN_new hin
    have ht := put_tells ts s
    rw [if_neg hin] at ht
    rw [ht]
    rw [fnd_none hin] at hfd
    have hpu := fun w2 (hm2 : More wa w2) => callsIn_wide.1 (in_Put 16 (Nat.le_refl _) w2 D b ts s (HT.out.more (More.trans HB.out.2 hm2)) hN hs)
    have hto : told ts s = .tuple #[.int .i64 ts.length, .bool true] := by
      unfold told; rw [put_tells, if_neg hin, decide_eq_true hin]
    rw [hto] at hpu
    have hln := fun w2 (hm2 : More wa w2) => in_Len w2 D b ts (HT.out.more (More.trans HB.out.2 hm2))
    obtain ⟨n, hn⟩ : ∃ n, ts.length = n := ⟨_, rfl⟩
    rw [hn] at hge hpu hln ⊢
    clear hin hm hp hto ht hlt hn
    go_enter Try.func43, Try.ntmps43
    go_wp2_with (first
      | (go_at_call 40; refine hfd.mono ?_; rintro e w2 ⟨rfl, hm2⟩; have cb2 := (boxed_more HB.out.1 hm2).cell; have H2 := Hid.mk hm2; clear hm2 hfd)
      | (go_at_call 39; refine (hln _ H2.out).mono ?_; rintro e w' ⟨rfl, hw'⟩; subst w')
      | (go_at_call 32; refine (hpu _ H2.out).mono ?_; rintro e w3 ⟨rfl, D', hT3, hO3, hD3⟩; have H3 := Hid.mk (And.intro hT3 (And.intro hO3 hD3)); clear hT3 hO3 hD3))
    go_ret2
    have hm2 := More.trans HB.out.2 H2.out
    exact ⟨rfl, D', H3.out.1, Off.more_after hm2 H3.out.2.1, fun j hj => (H3.out.2.2 j hj).imp id fun h => Nat.le_trans hm2.size h⟩

set_option maxRecDepth 1000000 in
set_option maxHeartbeats 4000000 in
theorem vo_take_full (w : World) (D : Nat → Prop) (b : Nat) (ts : List (List UInt8)) (s : List UInt8) (most : Int) (hT : Tab w D b ts) (hN : ts.length ≤ 100000) (hs : s.length ≤ 281474976710656) (hin : s ∉ ts) (hm : most ≤ (ts.length : Int)) :
    Calls Try.prog 43 #[.agg #[.pointer (some ⟨b, 0, none⟩)], .string (bs s), .int .i64 most] w fun e w' => e = .returned (.tuple #[.int .i64 0, .int .i64 6]) ∧ More w w' := by
  obtain ⟨wa, hwa⟩ : ∃ wa, w.alloc (.cells #[.pointer (some ⟨b, 0, none⟩)] 55) = wa := ⟨_, rfl⟩
  have hma : More w wa := by rw [← hwa]; exact more_alloc _ _
  have bb : Boxed wa w.heap.size 55 (.pointer (some ⟨b, 0, none⟩)) := by rw [← hwa]; exact Boxed.new _ _ _
  have cb := bb.cell
  have hfd := callsIn_wide.1 (in_Find 16 (Nat.le_refl _) wa D b ts s (hT.more hma) hN hs)
  rw [fnd_none hin] at hfd
  have HB := Hid.mk (And.intro bb hma)
  have hln := fun w2 (hm2 : More wa w2) => in_Len w2 D b ts (hT.more (More.trans HB.out.2 hm2))
  generalize ts.length = n at *
  clear bb hma hin
  go_enter Try.func43, Try.ntmps43
  go_wp2_with (first
    | (go_at_call 40; refine hfd.mono ?_; rintro e w2 ⟨rfl, hm2⟩; have cb2 := (boxed_more HB.out.1 hm2).cell; have H2 := Hid.mk hm2; clear hm2 hfd)
    | (go_at_call 39; refine (hln _ H2.out).mono ?_; rintro e w' ⟨rfl, hw'⟩; subst w'))
  go_ret2
  exact ⟨rfl, More.trans HB.out.2 H2.out⟩

/-- What take tells, whatever it is. -/
theorem vo_take_any (w : World) (D : Nat → Prop) (b : Nat) (ts : List (List UInt8)) (s : List UInt8) (most : Int) (hT : Tab w D b ts) (hN : ts.length ≤ 100000) (hs : s.length ≤ 281474976710656) :
    Calls Try.prog 43 #[.agg #[.pointer (some ⟨b, 0, none⟩)], .string (bs s), .int .i64 most] w fun e w' => ∃ F E : Int, e = .returned (.tuple #[.int .i64 F, .int .i64 E]) ∧ ∃ D', Off D w w' ∧ (∀ j, D' j → D j ∨ w.heap.size ≤ j) ∧
      ((E = 0 ∧ (s ∈ ts ∨ (ts.length : Int) < most) ∧ Tab w' D' b (putN ts s)) ∨ (E = 6 ∧ s ∉ ts ∧ most ≤ (ts.length : Int) ∧ Tab w' D' b ts)) := by
  by_cases h : s ∈ ts ∨ (ts.length : Int) < most
  · refine (vo_take w D b ts s most hT hN hs h).mono ?_
    rintro e w' ⟨rfl, D', h1, h2, h3⟩
    exact ⟨_, 0, rfl, D', h2, h3, .inl ⟨rfl, h, h1⟩⟩
  · have h1 : s ∉ ts := fun hh => h (.inl hh)
    have h2 : most ≤ (ts.length : Int) := by
      have : ¬ (ts.length : Int) < most := fun hh => h (.inr hh)
      omega
    refine (vo_take_full w D b ts s most hT hN hs h1 h2).mono ?_
    rintro e w' ⟨rfl, hm⟩
    exact ⟨0, 6, rfl, D, Off.of_more hm, fun j hj => .inl hj, .inr ⟨rfl, h1, h2, hT.more hm⟩⟩

/-- What an add tells. -/
theorem Voc.of_tab {w w' : World} {D D' : Nat → Prop} {v b : Nat} {ts' : List (List UInt8)} (hv : ¬ D v) (hb : w.heap[v]? = some (.cells #[.pointer (some ⟨b, 0, none⟩)] 57 (0, 0))) (hT : Tab w' D' b ts') (hO : Off D w w') (hD : ∀ j, D' j → D j ∨ w.heap.size ≤ j) : Voc w' D' v ts' :=
  ⟨fun h => (hD v h).elim hv fun hc => by have := lt_of_block hb; omega, b, (hO.block v (lt_of_block hb) hv).trans hb, hT⟩

set_option maxRecDepth 1000000 in
set_option maxHeartbeats 4000000 in
theorem vo_Add (v : Nat) (w : World) (D : Nat → Prop) (ts : List (List UInt8)) (s : List UInt8) (h : Voc w D v ts) (hN : ts.length < 65536) (hr : rightW s = true) (hs : s.length ≤ 281474976710656) :
    Calls Try.prog 23 #[.pointer (some ⟨v, 0, none⟩), .string (bs s)] w fun e w' => e = .returned (.tuple #[.int .i64 (fnd (putN ts s) s), .int .i64 0]) ∧ ∃ D', Voc w' D' v (putN ts s) ∧ Off D w w' ∧ ∀ j, D' j → D j ∨ w.heap.size ≤ j := by
  obtain ⟨hv, b, hb, hT⟩ := h
  have ht := vo_table (some ⟨b, 0, none⟩) v w (wcells1 hb).1
  have hrt := fun w => vo_right s (by omega) w
  rw [hr] at hrt
  have htk := fun w1 (hm : More w w1) => vo_take w1 D b ts s 65536 (hT.more hm) (by omega) hs (.inr (by omega))
  have HH := Hid.mk (And.intro hv hb)
  generalize fnd (putN ts s) s = F at *
  clear hv hb hT hr
  go_enter Try.func23, Try.ntmps23
  go_wp2_with (first
    | (go_at_call 37; refine ht.mono ?_; rintro e w1 ⟨rfl, hm⟩; have H1 := Hid.mk hm; clear hm)
    | (go_at_call 10; refine (hrt _).mono ?_; rintro e w' ⟨rfl, hw'⟩; subst w')
    | (go_at_call 43; refine (htk _ (More.trans H1.out (more_alloc _ _))).mono ?_; rintro e w3 ⟨rfl, D', hT3, hO3, hD3⟩; have H3 := Hid.mk (And.intro hT3 (And.intro hO3 hD3)); clear hT3 hO3 hD3))
  go_ret2
  have hm2 := More.trans H1.out (more_alloc w1 (.cells #[.pointer (some ⟨b, 0, none⟩)] 55))
  have hO := Off.more_after hm2 H3.out.2.1
  have hD : ∀ j, D' j → D j ∨ w.heap.size ≤ j := fun j hj => (H3.out.2.2 j hj).imp id fun h => Nat.le_trans hm2.size h
  exact ⟨rfl, D', Voc.of_tab HH.out.1 HH.out.2 H3.out.1 hO hD, hO, hD⟩
set_option maxRecDepth 1000000 in
set_option maxHeartbeats 4000000 in
theorem vo_Add_bad (v : Nat) (w : World) (D : Nat → Prop) (ts : List (List UInt8)) (s : List UInt8) (h : Voc w D v ts) (hr : rightW s = false) (hs : s.length ≤ 281474976710656) :
    Calls Try.prog 23 #[.pointer (some ⟨v, 0, none⟩), .string (bs s)] w fun e w' => e = .returned (.tuple #[.int .i64 0, .int .i64 10]) ∧ More w w' := by
  obtain ⟨hv, b, hb, hT⟩ := h
  have ht := vo_table (some ⟨b, 0, none⟩) v w (wcells1 hb).1
  have hrt := fun w => vo_right s (by omega) w
  rw [hr] at hrt
  clear hv hb hT hr
  go_enter Try.func23, Try.ntmps23
  go_wp2_with (first
    | (go_at_call 37; refine ht.mono ?_; rintro e w1 ⟨rfl, hm⟩; have H1 := Hid.mk hm; clear hm)
    | (go_at_call 10; refine (hrt _).mono ?_; rintro e w' ⟨rfl, hw'⟩; subst w'))
  go_ret2
  exact ⟨rfl, More.trans H1.out (more_alloc _ _)⟩
set_option maxRecDepth 1000000 in
theorem von_Add (s : ByteArray) (w : World) :
    Calls Try.prog 23 #[.pointer none, .string s] w fun e w' => e = .returned (.tuple #[.int .i64 0, .int .i64 11]) ∧ More w w' := by
  go_enter Try.func23, Try.ntmps23
  go_wp2_with (go_at_call 37; refine (vo_table_nil _).mono ?_; rintro e w1 ⟨rfl, hm⟩; have H1 := Hid.mk hm; clear hm)
  go_ret2
  exact ⟨rfl, More.trans H1.out (more_alloc _ _)⟩
end Go.Proofs.Ytbpegpgbdemomaa
