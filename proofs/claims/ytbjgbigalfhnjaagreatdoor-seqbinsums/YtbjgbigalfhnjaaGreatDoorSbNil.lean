/-
  seqbin's puts of nil.
-/
import Derived.Test.YtbjgbigalfhnjaaGreatDoorSbPut
import Derived.Test.YtbjgbigalfhnjaaGreatDoorSet07
import Derived.Test.YtbjgbigalfhnjaaGreatDoorEliasE
namespace Go.Proofs.YtbjgbigalfhnjaaGreatDoor
open Go.RowKit

set_option maxHeartbeats 800000 in
set_option maxRecDepth 1000000 in
theorem nput_row (base wb : Nat) (l : List UInt8) (w : World) (h : WrAt w base wb l) (hl : l.length ≤ 1000000) :
    Calls Tryz.prog 17 #[.pointer (some ⟨wb, 0, none⟩), .pointer none] w fun e w' => e = .returned (.tuple #[]) ∧ WrAt w' base wb l ∧ KeepsT WT base w w' := by
  obtain ⟨i0, hi, hz0, hz1, hz2⟩ := info_parts Tryz.info5
  have hlen := fun w => nil_len w
  have hce : ∀ w, Calls Tryz.prog 40 #[.int .i64 0, .int .i64 8] w fun e w' => e = .returned (.int .i64 0) ∧ w' = w := fun w => cells8 0 (by decide) w
  have HH := Hid.mk h
  clear h
  go_enter Tryz.func17, Tryz.ntmps17
  go_wp2_with (first
    | (go_at_call 41; refine (hlen _).mono ?_; rintro e w' ⟨rfl, hw⟩; subst w')
    | (go_at_call 40; refine (hce _).mono ?_; rintro e w' ⟨rfl, hw⟩; subst w')
    | (refine wpList_make_full _ rfl _ _ 31 rfl w.heap.size 5 i0 (.int .u8 0) 1 Tryz.underlying31 hi hz0 hz1 .i64 .i64 (0 : Int) (0 : Int) 0 rfl rfl rfl rfl (by rw [hz2]; omega) (by unfold maxLen; omega) (Nat.le_refl _) ?_; intro w1 hown hg; have H1 := Hid.mk hg; clear hown hg))
  have hm1 : More w w1 := ⟨H1.out.os, H1.out.tape, H1.out.output, H1.out.size, fun k hk => H1.out.block k hk (by simp)⟩
  go_loop [12] (fun i => i = .int .i64 0) (fun _ => 0)
  case atStart => rfl
  case round =>
    subst hrel
    have hconv : (convert 31 9 (.slice (some ⟨w.heap.size, 0, none⟩) 0 0)).run Tryz.prog w1 = .ok (.string (bs [])) w1 :=
      run_convert_bytes_back (P := Tryz.prog) w1 31 9 5 ⟨w.heap.size, 0, none⟩ 0 [] Tryz.underlying31 Tryz.underlying5 Tryz.underlying9 (fun j hj => by simp at hj)
    have hraw := wr_raw base wb l [] w1 (HH.out.more hm1) (by omega) (by decide)
    rw [List.append_nil] at hraw
    have HM := Hid.mk hm1
    clear hm1
    go_wp2_with (go_at_call 43; refine hraw.mono ?_; rintro e w3 ⟨rfl, hw3, hk3⟩; have H3 := Hid.mk (And.intro hw3 hk3); clear hw3 hk3)
    first | go_ret | go_end0
    exact ⟨rfl, H3.out.1, (KeepsT.more HM.out HH.out.sz).trans H3.out.2⟩

theorem num_0 : num 0 = [0] := num_small (by decide)
theorem num_1 : num 1 = [1] := num_small (by decide)

theorem wr_zero (base wb : Nat) (l : List UInt8) (w : World) (h : WrAt w base wb l) (hl : l.length ≤ 100000) :
    Calls Tryz.prog 44 #[.pointer (some ⟨wb, 0, none⟩), .int .u64 0] w fun e w' => e = .returned (.tuple #[]) ∧ WrAt w' base wb (l ++ [0]) ∧ KeepsT WT base w w' := by
  have h := wr_num base wb 0 l w h (by omega) (by decide)
  rw [num_0] at h
  exact h

set_option maxHeartbeats 800000 in
set_option maxRecDepth 1000000 in
theorem nput_pack (base wb : Nat) (l : List UInt8) (w : World) (h : WrAt w base wb l) (hl : l.length ≤ 90000) :
    Calls Tryz.prog 18 #[.pointer (some ⟨wb, 0, none⟩), .pointer none] w fun e w' => e = .returned (.tuple #[]) ∧ WrAt w' base wb (l ++ [0, 0]) ∧ KeepsT WT base w w' := by
  have hwid := fun w => none_width w
  have hlen := fun w => pnone_len w
  have hwo := fun w => none_words w
  have hof : ∀ w', Calls Tryz.prog 47 #[.slice none 0 0, .int .i64 0] w' fun e w'' => ∃ b, e = .returned (.tuple #[.pointer (some ⟨b, 0, none⟩), .int .i64 0]) ∧ RowAt w'' w'.heap.size b (ofW (wd 0) 0) 0 ∧ Keeps w'.heap.size w' w'' := fun w' => of_row (.slice none 0 0) 0 0 (wd 0) w' (.inl ⟨rfl, _, _, rfl⟩) (fun j hj => by omega) (by decide) rfl (by decide)
  have hn1 := wr_zero base wb l w h (by omega)
  clear h
  go_enter Tryz.func18, Tryz.ntmps18
  go_wp2_with (first
    | (go_at_call 45; refine (hwid _).mono ?_; rintro e w' ⟨rfl, hw⟩; subst w')
    | (go_at_call 46; refine (hlen _).mono ?_; rintro e w' ⟨rfl, hw⟩; subst w')
    | (go_at_call 48; refine (hwo _).mono ?_; rintro e w' ⟨rfl, hw⟩; subst w')
    | (go_at_call 44; refine hn1.mono ?_; rintro e w1 ⟨rfl, hr1, hk1⟩; have H1 := Hid.mk (And.intro hr1 hk1); have hn2 := wr_zero base wb _ w1 hr1 (by simp; omega); clear hr1 hk1 hn1)
    | (go_at_call 44; refine hn2.mono ?_; rintro e w2 ⟨rfl, hr2, hk2⟩; have H2 := Hid.mk (And.intro hr2 hk2); clear hr2 hk2 hn2)
    | (go_at_call 47; refine (hof _).mono ?_; rintro e w3 ⟨b, rfl, hrow3, hk3⟩; have hpr := sb_putRow base wb b _ 0 _ w3 (H2.out.1.more hk3.below) hrow3.rd (by decide) (by simp; omega); have H3 := Hid.mk (And.intro hk3.below trivial); clear hrow3 hk3)
    | (go_at_call 17; refine hpr.mono ?_; rintro e w4 ⟨rfl, hw4, hk4⟩; have H4 := Hid.mk (And.intro hw4 hk4); clear hw4 hk4 hpr))
  first | go_ret | go_end0
  refine ⟨rfl, ?_, (H1.out.2.trans H2.out.2).trans ((KeepsT.more H3.out.1 H2.out.1.sz).trans H4.out.2)⟩
  have := H4.out.1
  rw [show rby (ofW (wd 0) 0) 0 = [] from rfl, List.append_nil, List.append_assoc] at this
  exact this

set_option maxRecDepth 1000000 in
theorem nput_seq (base wb : Nat) (l : List UInt8) (w : World) (h : WrAt w base wb l) (hl : l.length ≤ 100000) :
    Calls Tryz.prog 19 #[.pointer (some ⟨wb, 0, none⟩), .pointer none] w fun e w' => e = .returned (.tuple #[]) ∧ WrAt w' base wb (l ++ [0]) ∧ KeepsT WT base w w' := by
  have hlen := fun w => eln_len w
  have hn1 := wr_zero base wb l w h (by omega)
  clear h
  go_enter Tryz.func19, Tryz.ntmps19
  go_wp2_with (first
    | (go_at_call 22; refine (hlen _).mono ?_; rintro e w' ⟨rfl, hw⟩; subst w')
    | (go_at_call 44; refine hn1.mono ?_; rintro e w1 ⟨rfl, hr1, hk1⟩; have H1 := Hid.mk (And.intro hr1 hk1); clear hr1 hk1 hn1))
  refine bodyPost_ret (results_none rfl _ _ _) rfl ?_
  exact ⟨rfl, H1.out.1, H1.out.2⟩
end Go.Proofs.YtbjgbigalfhnjaaGreatDoor
