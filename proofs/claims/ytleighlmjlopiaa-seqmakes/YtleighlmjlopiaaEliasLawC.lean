/-
  SeqMakes walked.
-/
import Derived.Test.YtleighlmjlopiaaEliasLawB
namespace Go.Proofs.Ytleighlmjlopiaa
open Go.RowKit

theorem makes_big (v : Value) (K : Nat) (g : Nat → Int) (i : Int) (w : World) (h : ZRd w v K g) (hK : K ≤ 9223372036854775807) (hb : 80 < K) :
    Calls Try.prog 3 #[v, .int .i64 i] w fun e w' => e = .returned (.bool true) ∧ Below w.heap.size w w' := by
  obtain ⟨ao, cap, rfl⟩ := h.shape
  clear h
  go_enter Try.func3, Try.ntmps3
  go_wp2_with (go_at_call 7; refine (el_live _).mono ?_; rintro e w1 ⟨rfl, hm⟩; have H1 := Hid.mk hm; clear hm)
  go_ret
  exact ⟨rfl, H1.out⟩

set_option maxHeartbeats 800000 in
theorem makes_bad (v : Value) (K : Nat) (g : Nat → Int) (i : Int) (w : World) (h : ZRd w v K g) (hb : K ≤ 80) (h0 : wrg g K ≠ 0) :
    Calls Try.prog 3 #[v, .int .i64 i] w fun e w' => e = .returned (.bool true) ∧ Below w.heap.size w w' := by
  have hw := ref_wrong v K g w h (by omega)
  have hn := el_new_bad v K g w h (by omega) h0
  obtain ⟨ao, cap, rfl⟩ := h.shape
  have hr := wrg_range g K
  generalize wrg g K = E at *
  have hE : (E != 0) = true := by simpa using h0
  clear h
  go_enter Try.func3, Try.ntmps3
  go_wp2_with (first
    | (go_at_call 8; refine hn.mono ?_; rintro e w' ⟨rfl, hw'⟩; subst w'; clear hn)
    | (go_at_call 9; refine hw.mono ?_; rintro e w1 ⟨rfl, m, hm⟩; subst w1; clear hw)
    | (go_at_call 10; refine (eln_len _).mono ?_; rintro e w' ⟨rfl, hw'⟩; subst w')
    | (go_at_call 11; refine (eln_at _ _).mono ?_; rintro e w' ⟨rfl, hw'⟩; subst w')
    | (go_at_call 12; refine (eln_last _).mono ?_; rintro e w' ⟨rfl, hw'⟩; subst w')
    | (go_at_call 7; refine (el_live _).mono ?_; rintro e w2 ⟨rfl, hm⟩; have H2 := Hid.mk hm; clear hm))
  go_ret
  exact ⟨rfl, More.trans (More.drewN _ _) H2.out⟩

set_option maxHeartbeats 1600000 in
set_option maxRecDepth 1000000 in
theorem makes_good (v : Value) (K : Nat) (f : Nat → Nat) (i : Int) (w : World) (h : ZRd w v K (fun j => (f j : Int))) (hC : Climbs f K) (hb : K ≤ 80) (h0 : wrg (fun j => (f j : Int)) K = 0) :
    Calls Try.prog 3 #[v, .int .i64 i] w fun e w' => e = .returned (.bool true) ∧ Below w.heap.size w w' := by
  have hw := fun w1 (hm : More w w1) => ref_wrong v K _ w1 (h.more hm) (by omega)
  rw [h0] at hw
  have hnew := el_new v K f w h hC (by omega)
  have hl : ∀ s base w1, SeqAt w1 base s f K → _ := fun s base w1 hs => el_len base s f K w1 hs
  have ha : ∀ s base w1, SeqAt w1 base s f K → _ := fun s base w1 hs => el_at base s f K i w1 hs
  have hz : ∀ s base w1, SeqAt w1 base s f K → _ := fun s base w1 hs => el_last base s f K w1 hs
  have rt := fun w1 (hm : More w w1) => ref_at v K f i w1 (h.more hm)
  have rs := fun w1 (hm : More w w1) => ref_at v K f ((K : Int) - 1) w1 (h.more hm)
  obtain ⟨ao, cap, rfl⟩ := h.shape
  have HH := Hid.mk (And.intro h (And.intro ha rt))
  have HS := Hid.mk (And.intro hz rs)
  clear h hC h0 ha rt hz rs
  go_enter Try.func3, Try.ntmps3
  go_wp2_with (first
    | (go_at_call 8; refine hnew.mono ?_; rintro e w1 ⟨s, rfl, hs, hm⟩; have H1 := Hid.mk (And.intro hs hm); clear hs hm hnew)
    | (go_at_call 9; refine (hw _ H1.out.2).mono ?_; rintro e w2 ⟨rfl, m, hm⟩; subst w2; clear hw)
    | (go_at_call 10; refine (eln_len _).mono ?_; rintro e w' ⟨rfl, hw'⟩; subst w')
    | (go_at_call 11; refine (eln_at _ _).mono ?_; rintro e w' ⟨rfl, hw'⟩; subst w')
    | (go_at_call 12; refine (eln_last _).mono ?_; rintro e w' ⟨rfl, hw'⟩; subst w'))
  have H2 := Hid.mk (And.intro (H1.out.1.more (More.drewN w1 m)) (More.trans H1.out.2 (More.drewN w1 m)))
  generalize w1.drewN m = w2 at *
  clear H1
  go_loopw [9] (fun c wr => ∃ k : Nat, k ≤ K ∧ c = .int .i64 k ∧ Hid (More w2 wr)) (fun c _ => K - (intOf c).toNat)
  case atStart => exact ⟨0, Nat.zero_le _, rfl, Hid.mk (Below.refl _ _)⟩
  case round =>
    obtain ⟨k, hk, rfl, HR⟩ := hrel
    by_cases hkK : k < K
    · obtain ⟨b, o, rfl, hc⟩ := HH.out.1.cell (w' := wr) k hkK
      have hck := hc (More.trans H2.out.2 HR.out)
      have l1 : ∀ u : Lat wr, u.val.cell? ⟨b, o + k, none⟩ = some (.int .i64 (f k : Nat)) := fun u => (u.more.cell (p := ⟨b, o + k, none⟩) (World.block_lt_of_cell? wr _ hck)).trans hck
      have k1 : ∀ u : Lat wr, Calls Try.prog 11 #[.pointer (some ⟨s, 0, none⟩), .int .i64 k] u.val fun e w' => e = .returned (.int .i64 (f k : Nat)) ∧ ∃ u' : Lat wr, w' = u'.val := fun u => by
        have := el_at _ s f K k u.val (H2.out.1.more (More.trans HR.out u.more))
        rw [atZ_in f K k hkK] at this
        exact this.mono fun e w' ⟨he, hm⟩ => ⟨he, u.grown hm⟩
      have hne : Nonempty (Lat wr) := Lat.any wr
      generalize f k = x at *
      clear hc hck hl
      go_wp2
      refine wp_region_lat (by kernel_rfl) (by kernel_rfl) ?_
      repeat (quiet_step ((go_at_call 11; exact k1 _)))
      refine wpQuiet_nil ?_
      rintro _ ⟨u, rfl⟩
      have HU := Hid.mk (More.trans HR.out u.more)
      clear l1 k1
      go_wp2
      exact ⟨⟨k + 1, by omega, by go_num, HU⟩, by simp [intOf]; omega⟩
    · obtain rfl : k = K := by omega
      have hl' := hl s _ wr (H2.out.1.more HR.out)
      have ha' := HH.out.2.1 s _ wr (H2.out.1.more HR.out)
      have rt' := fun w1 (hm : More wr w1) => HH.out.2.2 w1 (More.trans H2.out.2 (More.trans HR.out hm))
      have hz' := fun w1 (hm : More wr w1) => HS.out.1 s _ w1 (H2.out.1.more (More.trans HR.out hm))
      have rs' := fun w1 (hm : More wr w1) => HS.out.2 w1 (More.trans H2.out.2 (More.trans HR.out hm))
      generalize atZ f k i = X at ha' rt'
      generalize atZ f k ((k : Int) - 1) = Y at hz' rs'
      have T1 : Hid True := trivial
      clear hl hk hkK
      go_wp2_with (first
        | (go_at_call 10; refine hl'.mono ?_; rintro e w' ⟨rfl, hw'⟩; subst w'; clear hl')
        | (go_at_call 11; refine ha'.mono ?_; rintro e w3 ⟨rfl, hm⟩; have H3 := Hid.mk hm; clear hm ha')
        | (go_at_call 13; have T2 := T1; clear T1; refine (rt' _ H3.out).mono ?_; rintro e w' ⟨rfl, hw'⟩; subst w')
        | (go_at_call 12; refine (hz' _ H3.out).mono ?_; rintro e w4 ⟨rfl, hm⟩; have H4 := Hid.mk (More.trans H3.out hm); clear hm hz')
        | (go_at_call 13; refine (rs' _ H4.out).mono ?_; rintro e w' ⟨rfl, hw'⟩; subst w')
        | (go_at_call 7; refine (el_live _).mono ?_; rintro e w5 ⟨rfl, hm⟩; have H5 := Hid.mk (More.trans H4.out hm); clear hm))
      go_ret
      exact ⟨rfl, More.trans H2.out.2 (More.trans HR.out H5.out)⟩

theorem seqMakes (v : Value) (K : Nat) (g : Nat → Int) (i : Int) (w : World) (h : ZRd w v K g) (hK : K ≤ 9223372036854775807) :
    Calls Try.prog 3 #[v, .int .i64 i] w fun e w' => e = .returned (.bool true) ∧ Below w.heap.size w w' := by
  by_cases hb : 80 < K
  · exact makes_big v K g i w h hK hb
  by_cases h0 : wrg g K = 0
  · exact makes_good v K _ i w (tell h h0) (wrg_climbs g K h0).2 (by omega) (wrg_tell g K h0)
  · exact makes_bad v K g i w h (by omega) h0

end Go.Proofs.Ytleighlmjlopiaa
