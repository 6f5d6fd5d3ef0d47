/-
  seqbin's PutSeq: a sequence's bytes are written.
-/
import Derived.Test.YtbjgbigalfhnjaaGreatDoorSet20
import Derived.Test.YtbjgbigalfhnjaaGreatDoorSbRow
import Derived.Test.YtbjgbigalfhnjaaGreatDoorSet12
namespace Go.Proofs.YtbjgbigalfhnjaaGreatDoor
open Go.RowKit

theorem KeepsT.own {T : TypeId → Prop} {base base' : Nat} {w w' : World} {e : TypeId} {size : Nat} {v : Value} {n : Nat} {xs : List Value} (k : KeepsT T base w w') (h : w.ownsRow base' e size v n xs) (he : ¬ T e) : w'.ownsRow base' e size v n xs :=
  ⟨h.1, h.2.imp id fun ⟨g, cap, cur, hv, hb, hg, rest⟩ => ⟨g, cap, cur, hv, hb, k.other _ _ _ _ he hg, rest⟩⟩
theorem KeepsT.row {T : TypeId → Prop} {base base' b V n : Nat} {w w' : World} (k : KeepsT T base w w') (h : RowAt w base' b V n) (h1 : ¬ T 102) (h2 : ¬ T 68) : RowAt w' base' b V n := by
  obtain ⟨v, hb, hown⟩ := h.mem
  exact ⟨h.lo, h.fit, h.len, v, k.other _ _ _ _ h1 hb, k.own hown h2⟩
theorem KeepsT.pack {T : TypeId → Prop} {base base' p V d n : Nat} {w w' : World} (k : KeepsT T base w w') (h : PackAt w base' p V d n) (h0 : ¬ T 107) (h1 : ¬ T 102) (h2 : ¬ T 68) : PackAt w' base' p V d n := by
  obtain ⟨b, hb, hr⟩ := h.mem
  exact ⟨h.lo, h.wid, h.num, b, k.other _ _ _ _ h0 hb, k.row hr h1 h2⟩
theorem KeepsT.sdir {T : TypeId → Prop} {base base' d V n : Nat} {w w' : World} (k : KeepsT T base w w') (h : SDirAt w base' d V n) (h0 : ¬ T 117) (h1 : ¬ T 3) (h2 : ¬ T 68) : SDirAt w' base' d V n := by
  obtain ⟨v, m, hb, hv, hm⟩ := h.mem
  exact ⟨h.fit, h.len, h.lo, v, m, k.other _ _ _ _ h0 hb, k.own hv h2, k.own hm h1⟩
/-- A sequence stays as it is where its types' blocks do. -/
theorem KeepsT.seq {T : TypeId → Prop} {base base' s : Nat} {f : Nat → Nat} {n : Nat} {w w' : World} (k : KeepsT T base w w') (h : SeqAt w base' s f n) (hT : ∀ t, T t → t ≠ 91 ∧ t ≠ 107 ∧ t ≠ 102 ∧ t ≠ 68 ∧ t ≠ 117 ∧ t ≠ 3) : SeqAt w' base' s f n := by
  obtain ⟨p, d, hb, hp, hd⟩ := h.mem
  exact ⟨h.climbs, h.num, p, d, k.other _ _ _ _ (fun h => (hT _ h).1 rfl) hb, k.pack hp (fun h => (hT _ h).2.1 rfl) (fun h => (hT _ h).2.2.1 rfl) (fun h => (hT _ h).2.2.2.1 rfl), k.sdir hd (fun h => (hT _ h).2.2.2.2.1 rfl) (fun h => (hT _ h).2.2.2.2.2 rfl) (fun h => (hT _ h).2.2.2.1 rfl)⟩
theorem wt_seq : ∀ t, WT t → t ≠ 91 ∧ t ≠ 107 ∧ t ≠ 102 ∧ t ≠ 68 ∧ t ≠ 117 ∧ t ≠ 3 := by
  rintro t (rfl | rfl) <;> decide
theorem rt_seq : ∀ t, RT t → t ≠ 91 ∧ t ≠ 107 ∧ t ≠ 102 ∧ t ≠ 68 ∧ t ≠ 117 ∧ t ≠ 3 := by
  rintro t rfl; decide
theorem KeepsT.tab {T : TypeId → Prop} {base : Nat} {w w' : World} (k : KeepsT T base w w') (h : TabIn w) (hb : 0 < base) : TabIn w' := h.below k.below hb
theorem tab_pos {w : World} (h : TabIn w) : 0 < w.heap.size := World.block_lt_of_cell? w _ (h 0 (by decide))

set_option maxHeartbeats 1600000 in
set_option maxRecDepth 1000000 in
theorem sb_putSeq (base wb base' s : Nat) (f : Nat → Nat) (N : Nat) (l : List UInt8) (w : World) (h : WrAt w base wb l) (hb0 : 0 < base) (hs : SeqAt w base' s f N) (hT : TabIn w) (hN2 : N ≤ 2400) (hl : l.length ≤ 100000) :
    Calls Tryz.prog 19 #[.pointer (some ⟨wb, 0, none⟩), .pointer (some ⟨s, 0, none⟩)] w fun e w' => e = .returned (.tuple #[]) ∧ WrAt w' base wb (l ++ seqB f N) ∧ KeepsT WT base w w' := by
  have hC := hs.climbs
  have hlen := fun w (h : SeqAt w base' s f N) => el_len base' s f N w h
  have hwN : IntKind.u64.wrap (N : Int) = N := by rw [IntKind.wrap_u64]; omega
  have hn1 := wr_num base wb N l w h (by omega) (by omega)
  by_cases h0 : N = 0
  · subst h0
    rw [seqB_none]
    have HH := Hid.mk (And.intro h (And.intro hs hT))
    have hlen0 := hlen w hs
    rw [Int.natCast_zero] at hn1 hlen0
    simp only [Int.natCast_zero] at hlen
    clear h hs hT
    go_enter Tryz.func19, Tryz.ntmps19
    go_wp2_with (first
      | (go_at_call 22; refine hlen0.mono ?_; rintro e w' ⟨rfl, hw⟩; subst w'; clear hlen0)
      | (go_at_call 44; refine hn1.mono ?_; rintro e w1 ⟨rfl, hr1, hk1⟩; have H1 := Hid.mk (And.intro hr1 hk1); have hlen1 := hlen w1 (hk1.seq HH.out.2.1 wt_seq); clear hr1 hk1 hn1)
      | (go_at_call 22; refine hlen1.mono ?_; rintro e w' ⟨rfl, hw⟩; subst w'; clear hlen1))
    refine bodyPost_ret (results_none rfl _ _ _) rfl ?_
    exact ⟨rfl, H1.out.1, H1.out.2⟩
  · rw [seqB_some f h0]
    obtain ⟨U, hU⟩ : ∃ U, lst f N = U := ⟨_, rfl⟩
    have hUb : U ≤ 1099511627776 := by rw [← hU]; exact lst_le hC
    have hlast := fun w (h : SeqAt w base' s f N) => el_last base' s f N w h
    have hat : atZ f N ((N : Int) - 1) = (U : Int) := by
      rw [show (N : Int) - 1 = ((N - 1 : Nat) : Int) by omega, atZ_in f N (N - 1) (by omega), ← lst_pos f h0, hU]
    rw [hat] at hlast
    have hwU : IntKind.u64.wrap (U : Int) = U := by rw [IntKind.wrap_u64]; omega
    have hlow := fun w => el_low (N : Int) (U : Int) (by omega) w
    rw [lowZ_nat] at hlow
    obtain ⟨D, hD⟩ : ∃ D, wdt f N = D := ⟨_, rfl⟩
    have hDl : lowN N U = D := by rw [← hD, ← hU]; rfl
    rw [hDl] at hlow
    have hD40 : D ≤ 40 := by rw [← hD]; exact wdt_le hC
    have hSN := seqN_le hC
    have hVN := seqV_lt hC D
    rw [hD] at hSN
    rw [hU, hD]
    have hml := num_ten (v := N) (by omega)
    have hmu := num_ten (v := U) (by omega)
    have hNe : ¬ (N : Int) = 0 := by omega
    have hlen0 := hlen w hs
    have HH := Hid.mk (And.intro h (And.intro hs (And.intro hT (And.intro hSN (And.intro hVN (And.intro hml hmu))))))
    clear h hs hT hSN hVN hU hD hDl hat hml hmu
    go_enter Tryz.func19, Tryz.ntmps19
    go_wp2_with (first
      | (go_at_call 22; refine hlen0.mono ?_; rintro e w' ⟨rfl, hw⟩; subst w'; clear hlen0)
      | (go_at_call 44; refine hn1.mono ?_; rintro e w1 ⟨rfl, hr1, hk1⟩; have H1 := Hid.mk (And.intro hr1 (And.intro hk1 (And.intro (hk1.seq HH.out.2.1 wt_seq) (hk1.tab HH.out.2.2.1 hb0)))); have hlen1 := hlen w1 H1.out.2.2.1; have hlast1 := hlast w1 H1.out.2.2.1; clear hr1 hk1 hn1)
      | (go_at_call 22; refine hlen1.mono ?_; rintro e w' ⟨rfl, hw⟩; subst w'; clear hlen1)
      | (go_at_call 24; refine hlast1.mono ?_; rintro e w2 ⟨rfl, hm2⟩; have H2 := Hid.mk (And.intro hm2 (And.intro (H1.out.2.2.1.more hm2) (More.tab H1.out.2.2.2 hm2))); have hn2 := wr_num base wb U _ w2 (H1.out.1.more hm2) (by rw [List.length_append]; have := HH.out.2.2.2.2.2.1; omega) (by omega); clear hm2 hlast1)
      | (go_at_call 44; refine hn2.mono ?_; rintro e w3 ⟨rfl, hr3, hk3⟩; have H3 := Hid.mk (And.intro hr3 (And.intro hk3 (And.intro (hk3.seq H2.out.2.1 wt_seq) (hk3.tab H2.out.2.2 hb0)))); clear hr3 hk3 hn2)
      | (go_at_call 49; refine (new_row _).mono ?_; rintro e w4 ⟨rfl, hw4⟩
         have hm4 : More w3 w4 := by rw [hw4]; exact more_alloc _ _
         have hrow4 : RowAt w4 w3.heap.size w3.heap.size 0 0 := by rw [hw4]; exact ⟨Nat.le_refl _, by decide, by decide, _, heap_alloc_new _ _, World.ownsRow_nil _ _ _ _⟩
         have H4 := Hid.mk (And.intro hm4 hrow4)
         have hlen4 := hlen w4 (H3.out.2.2.1.more hm4)
         have hlast4 := hlast w4 (H3.out.2.2.1.more hm4)
         clear hw4 hm4 hrow4)
      | (go_at_call 22; refine hlen4.mono ?_; rintro e w' ⟨rfl, hw⟩; subst w'; clear hlen4)
      | (go_at_call 24; refine hlast4.mono ?_; rintro e w5 ⟨rfl, hm5⟩; have H5 := Hid.mk (And.intro (More.trans H4.out.1 hm5) (More.row H4.out.2 hm5)); clear hm5 hlast4)
      | (go_at_call 50; refine (hlow _).mono ?_; rintro e w' ⟨rfl, hw⟩; subst w')
      | (go_at_call 51; refine ((callsIn_wide (n := 16)).1 (sb_low 16 (Nat.le_refl _) base' s f N w3 w5 H3.out.2.2.1 H3.out.2.2.2 H5.out.1 w3.heap.size 0 0 D H5.out.2 hD40 (by have := HH.out.2.2.2.1; unfold seqN at this; omega))).mono ?_; rintro e w6 ⟨rfl, hr6, hm6⟩; have H6 := Hid.mk (And.intro hr6 hm6); clear hr6 hm6)
      | (go_at_call 52; refine ((callsIn_wide (n := 16)).1 (sb_high 16 (Nat.le_refl _) base' s f N w3 w6 H3.out.2.2.1 H3.out.2.2.2 H6.out.2 w3.heap.size _ _ D H6.out.1 hD40 (by have := HH.out.2.2.2.1; unfold seqN at this; omega))).mono ?_; rintro e w7 ⟨rfl, hr7, hm7⟩
         have hr7' : RowRd w7 w3.heap.size (seqV f D N) (seqN f D N) := by
           have := hr7.rd
           rw [show cat 0 0 (packV D (fun i => f i % 2 ^ D) N) = packV D (fun i => f i % 2 ^ D) N by simp [cat], Nat.zero_add] at this
           exact this
         have H7 := Hid.mk (And.intro hr7' hm7); clear hr7 hr7' hm7)
      | (go_at_call 17; refine (sb_putRow base wb w3.heap.size (seqV f D N) (seqN f D N) _ w7 (H3.out.1.more H7.out.2) H7.out.1 (by have := HH.out.2.2.2.1; omega) (by simp only [List.length_append]; have := HH.out.2.2.2.2.2; omega)).mono ?_; rintro e w8 ⟨rfl, hr8, hk8⟩; have H8 := Hid.mk (And.intro hr8 hk8); clear hr8 hk8))
    first | go_ret | go_end0
    refine ⟨rfl, ?_, (H1.out.2.1.trans (KeepsT.more H2.out.1 H1.out.1.sz)).trans ((H3.out.2.1.trans (KeepsT.more H7.out.2 H3.out.1.sz)).trans H8.out.2)⟩
    have := H8.out.1
    rw [List.append_assoc, List.append_assoc] at this
    exact this

end Go.Proofs.YtbjgbigalfhnjaaGreatDoor
