/-
  WireOnce, walked.
-/
import Derived.Test.YtlghcnobgpocjaaWireLawF
namespace Go.Proofs.Ytlghcnobgpocjaa
open Go.RowKit

theorem rd_kept {w w' : World} {base base' b a E : Nat} {l : List UInt8} (k : Keeps WT base' w w') (h : RdAt w base b l a E) : RdAt w' base b l a E := ⟨h.lo, Nat.le_trans h.sz k.below.size, h.le, h.len, k.other _ _ _ _ (by unfold WT; decide) h.mem⟩

set_option maxHeartbeats 3200000 in
set_option maxRecDepth 1000000 in
theorem wireOnce (l : List UInt8) (kd : Int) (v : Nat) (N : Int) (s : List UInt8) (w : World) (hll : l.length ≤ 9223372036854775807) (hN : -9223372036854775808 ≤ N ∧ N ≤ 9223372036854775807) :
    Calls Try.prog 6 #[.string (bs l), partV kd v N s] w fun e w' => e = .returned (.bool true) ∧ Below w.heap.size w w' := by
  have hlv := fun w => live_true w
  have hsz : (bs l).size = l.length := bs_size l
  have hbx := Hid.mk (More.alloc w (partO kd v N s))
  by_cases hbig : 600 < l.length
  · have hbig' : (600 : Int) < l.length := by omega
    generalize l.length = n at *
    go_enter Try.func6, Try.ntmps6
    go_wp2_with (go_at_call 8; refine (hlv _).mono ?_; rintro e w1 ⟨rfl, hm⟩)
    go_ret
    exact ⟨rfl, hbx.out.trans hm⟩
  have hbig' : ¬ (600 : Int) < l.length := by omega
  obtain ⟨w0, hw0⟩ : ∃ w0, (w.alloc (partO kd v N s)).alloc (.cells #[.string (bs []), .int .i64 11] 38) = w0 := ⟨_, rfl⟩
  have hx0 : XAt w0 w.heap.size (w.heap.size + 1) [] 11 := by
    rw [← hw0]
    exact ⟨by omega, by simp; omega, by decide, by have := heap_alloc_new (w.alloc (partO kd v N s)) (.cells #[.string (bs []), .int .i64 11] 38); simpa using this⟩
  have hm0 : More w w0 := by rw [← hw0]; exact hbx.out.trans (More.alloc _ _)
  have hrd := no_read w.heap.size (w.heap.size + 1) kd v N s w0 hx0 hN
  have ho := fun w => rd_open l (by omega) w
  obtain ⟨v', t, er, hq⟩ : ∃ v' t er, fst l = (v', t, er) := ⟨_, _, _, rfl⟩
  have hok := fst_ok hq
  have hnum := fun base b w1 h => rdr_num base b 0 t er 0 v' l w1 h (by rw [st_ok, List.drop_zero]; exact hq)
  have HM := Hid.mk hm0
  have HW0 := Hid.mk hw0
  have HQ := Hid.mk hq
  have ht := hok.1
  have hv64 := hok.2.1
  have h0 := hok.2.2.1
  clear hx0 hm0 hok hq
  by_cases he : er = 0
  · subst he
    have htake := num_fst HQ.out
    have hwr := fun w1 h => wr_num (World.heap w1).size (World.heap w1).size v' [] (w1.alloc (.cells #[.slice none 0 0] 28)) h (by decide) hv64
    rw [List.nil_append, htake] at hwr
    have hby := fun base w1 h => wr_bytes base base (l.take t) w1 h
    have htl : (l.take t).length = t := by rw [List.length_take]; omega
    have hszt : (bs (l.take t)).size = t := by rw [bs_size, htl]
    have hlf := fun base w1 h => rd_left base base (0 + t) 0 l w1 h
    rw [List.length_drop, Nat.zero_add] at hlf
    have her := fun base w1 h => rd_err base base (0 + t) 0 l w1 h
    rw [Nat.zero_add] at her
    have hto := slice_to l t t rfl ht
    have hsub : (l.length : Int) - ((l.length - t : Nat) : Int) = (t : Int) := by omega
    have hex : (bs (l.take t)).toList = ((bs l).extract 0 (min (t : Int) (l.length : Int)).toNat).toList := by rw [show min (t : Int) (l.length : Int) = (t : Int) by omega, Int.toNat_natCast, bs_cut, List.drop_zero]
    obtain ⟨d, hd⟩ : ∃ d, l.length - t = d := ⟨_, rfl⟩
    rw [hd] at hlf hsub
    have hdb : d ≤ 600 := by omega
    generalize l.take t = out at *
    clear htake hd h0 htl
    have HWn := Hid.mk (fun w1 => WrAt.new w1)
    have HWm := Hid.mk (fun w1 => More.alloc w1 (.cells #[.slice none 0 0] 28))
    go_enter Try.func6, Try.ntmps6
    go_wp2_with (first
      | (go_at_call 12; rw [← bs_nil] at HW0; rw [HW0.out]; refine hrd.mono ?_; rintro e w1 ⟨rfl, hb⟩; have H1 := Hid.mk (Below.trans HM.out hb); clear hb hrd)
      | (go_at_call_of 13 (Value.pointer none); refine (no_left _).mono ?_; rintro e w' ⟨rfl, hw'⟩; subst w')
      | (go_at_call_of 14 (Value.pointer none); refine (no_err _).mono ?_; rintro e w' ⟨rfl, hw'⟩; subst w')
      | (go_at_call_of 15 (Value.pointer none); refine (no_end _).mono ?_; rintro e w' ⟨rfl, hw'⟩; subst w')
      | (go_at_call 11; refine (ho _).mono ?_; rintro e w2 ⟨rfl, ha, hb⟩; have H2 := Hid.mk (And.intro ha (More.trans H1.out hb)); clear ha hb)
      | (go_at_call 17; refine (hnum w1.heap.size w1.heap.size w2 H2.out.1).mono ?_; rintro e w3 ⟨rfl, ha, hb⟩; rw [Nat.zero_add] at ha; have H3 := Hid.mk (And.intro ha (Below.trans H2.out.2 (hb.below.mono H1.out.size))); clear ha hb hnum)
      | (go_at_call 14; refine (her w1.heap.size w3 H3.out.1).mono ?_; rintro e w' ⟨rfl, hw'⟩; subst w')
      | (go_at_call 21; refine (hwr w3 (HWn.out w3)).mono ?_; rintro e w4 ⟨rfl, ha, hb⟩; have H4 := Hid.mk (And.intro ha (And.intro (rd_kept hb (H3.out.1.more (HWm.out w3))) (Below.trans (Below.trans H3.out.2 ((HWm.out w3).mono H3.out.2.size)) (hb.below.mono H3.out.2.size)))); clear ha hb hwr)
      | (go_at_call 10; refine (hby w3.heap.size w4 H4.out.1).mono ?_; rintro e w' ⟨rfl, hw'⟩; subst w')
      | (go_at_call 13; refine (hlf w1.heap.size w4 H4.out.2.1).mono ?_; rintro e w5 ⟨rfl, m5, hw5⟩; have H5 := Hid.mk (Below.trans H4.out.2.2 ((More.drewN w4 m5).mono H4.out.2.2.size)); rw [← hw5] at H5; clear hw5 hlf)
      | (go_at_call 8; refine (hlv _).mono ?_; rintro e w6 ⟨rfl, hm⟩; have H6 := Hid.mk (Below.trans H5.out (hm.mono H5.out.size)); clear hm))
    go_ret
    exact ⟨rfl, H6.out⟩
  · obtain ⟨rfl, rfl⟩ := h0 he
    have hne : ((er : Int) != 0) = true := by simp; omega
    have hlf := fun base w1 h => rd_left base base (0 + 0) er l w1 h
    rw [List.length_drop, Nat.zero_add, Nat.sub_zero] at hlf
    have her := fun base w1 h => rd_err base base (0 + 0) er l w1 h
    clear h0 he
    generalize l.length = n at *
    go_enter Try.func6, Try.ntmps6
    go_wp2_with (first
      | (go_at_call 12; rw [← bs_nil] at HW0; rw [HW0.out]; refine hrd.mono ?_; rintro e w1 ⟨rfl, hb⟩; have H1 := Hid.mk (Below.trans HM.out hb); clear hb hrd)
      | (go_at_call_of 13 (Value.pointer none); refine (no_left _).mono ?_; rintro e w' ⟨rfl, hw'⟩; subst w')
      | (go_at_call_of 14 (Value.pointer none); refine (no_err _).mono ?_; rintro e w' ⟨rfl, hw'⟩; subst w')
      | (go_at_call_of 15 (Value.pointer none); refine (no_end _).mono ?_; rintro e w' ⟨rfl, hw'⟩; subst w')
      | (go_at_call 11; refine (ho _).mono ?_; rintro e w2 ⟨rfl, ha, hb⟩; have H2 := Hid.mk (And.intro ha (More.trans H1.out hb)); clear ha hb)
      | (go_at_call 17; refine (hnum w1.heap.size w1.heap.size w2 H2.out.1).mono ?_; rintro e w3 ⟨rfl, ha, hb⟩; have H3 := Hid.mk (And.intro ha (Below.trans H2.out.2 (hb.below.mono H1.out.size))); clear ha hb hnum)
      | (go_at_call 14; refine (her w1.heap.size w3 H3.out.1).mono ?_; rintro e w' ⟨rfl, hw'⟩; subst w')
      | (go_at_call 13; refine (hlf w1.heap.size w3 H3.out.1).mono ?_; rintro e w5 ⟨rfl, m5, hw5⟩; have H5 := Hid.mk (Below.trans H3.out.2 ((More.drewN w3 m5).mono H3.out.2.size)); rw [← hw5] at H5; clear hw5 hlf)
      | (go_at_call 8; refine (hlv _).mono ?_; rintro e w6 ⟨rfl, hm⟩; have H6 := Hid.mk (Below.trans H5.out (hm.mono H5.out.size)); clear hm))
    go_ret
    exact ⟨rfl, H6.out⟩

end Go.Proofs.Ytlghcnobgpocjaa
