/-
  seldir's search, whole.
  seldir's search, whole, for noughts (the text of the search for ones, at the other function that is handed in).
  seldir's One and Zero; of nil too.
-/
import Derived.Test.YtbjgbigalfhnjaaGreatDoorSet09
import Derived.Laws.BitsAllLaws
import Derived.Deep.CutRange
namespace Go.Proofs.YtbjgbigalfhnjaaGreatDoor
open Go.RowKit

theorem more_drew (w : World) : More w w.drew := ⟨rfl, rfl, rfl, Nat.le_refl _, fun _ _ => rfl⟩

/-- What find has made: k and the function, each in a cell of its own. -/
structure Boxes (w wr : World) (K : Int) (f : Value) : Prop where
  ck : wr.heap[w.heap.size]? = some (.cells #[.int .i64 K] 3 (0, 0))
  ca : wr.heap[w.heap.size + 1]? = some (.cells #[f] 41 (0, 0))
  more : More w wr
theorem boxes_new (w : World) (K : Int) (f : Value) : Boxes w ((w.alloc (.cells #[.int .i64 K] 3)).alloc (.cells #[f] 41)) K f := by
  have h1 : (w.alloc (.cells #[.int .i64 K] 3)).heap.size = w.heap.size + 1 := by simp
  refine ⟨?_, ?_, (more_alloc w _).alloc (more_alloc w _).size _⟩
  · rw [Below.heap_alloc _ _ _ (by omega)]; exact heap_alloc_new _ _
  · rw [← h1]; exact heap_alloc_new _ _
theorem cells1 {w : World} {b : Nat} {u : Value} {t : TypeId} (h : w.heap[b]? = some (.cells #[u] t (0, 0))) : w.cell? ⟨b, 0, none⟩ = some u ∧ w.frozen? ⟨b, 0, none⟩ = false := by
  simp [World.cell?, World.frozen?, h]
theorem Boxes.drewN {w wr : World} {K : Int} {f : Value} (h : Boxes w wr K f) (m : Nat) : Boxes w (wr.drewN m) K f := ⟨h.ck, h.ca, More.trans h.more (More.drewN _ m)⟩
theorem Boxes.set {w wr : World} {K : Int} {f : Value} (h : Boxes w wr K f) (K' : Int) : Boxes w (wr.setCell ⟨w.heap.size, 0, none⟩ (.int .i64 K')) K' f := by
  refine ⟨?_, set_off h.ca (by simp), h.more.setCell (p := ⟨w.heap.size, 0, none⟩) (Nat.le_refl _) _⟩
  simpa using heap_setCell_same wr w.heap.size 0 #[.int .i64 K] 3 (.int .i64 K') h.ck

theorem own_at {w : World} {base K : Nat} {v : Value} {f : Nat → Nat} (h : w.ownsRow base 68 1 v K (u64s f K)) (hK : 0 < K) : ∃ g cap, v = .slice (some ⟨g, 0, none⟩) K cap ∧ (∀ j, j < K → w.cell? ⟨g, j, none⟩ = some (.int .u64 (f j : Nat))) ∧ K ≤ cap := by
  rcases h.2 with ⟨rfl, hn⟩ | ⟨g, cap, cur, rfl, _, hg, hle, _⟩
  · omega
  · exact ⟨g, cap, rfl, fun j hj => by rw [h.cellAt j (by omega), u64s_get _ _ _ hj], hle⟩

set_option maxHeartbeats 800000 in
set_option maxRecDepth 1000000 in
theorem sfind_a (d V U n c F k : Nat) (base : Nat) (w : World) (h : SDirAt w base d V n) (hA : Ahead 87 w c U n) (hF : F < 18446744073709551616) (hW : ∀ i, i < nw n → wd V i ^^^ F = wd U i) (hk : k < rk U n) :
    Calls Tryz.prog 86 #[.pointer (some ⟨d, 0, none⟩), .int .i64 k, .int .u64 F, .func (.func 87) #[] #[.pointer (some ⟨c, 0, none⟩)]] w fun e w' => e = .returned (.int .i64 (sel U k n)) ∧ More w w' := by
  have hn0 : ¬ n = 0 := by rintro rfl; simp [rk] at hk
  have hb0 := boxes_new w (k : Int) (.func (.func 87) #[] #[.pointer (some ⟨c, 0, none⟩)])
  obtain ⟨w0, hw0⟩ : ∃ w0, ((w.alloc (.cells #[.int .i64 k] 3)).alloc (.cells #[.func (.func 87) #[] #[.pointer (some ⟨c, 0, none⟩)]] 41)) = w0 := ⟨_, rfl⟩
  rw [hw0] at hb0
  obtain ⟨ck, _⟩ := cells1 hb0.ck
  obtain ⟨ca, _⟩ := cells1 hb0.ca
  have h0 := (h.more hb0.more).rd
  have c2 := h0.c2
  obtain ⟨vm, c1, hm⟩ := h0.c1
  obtain ⟨am, cm, rfl⟩ := hm.shape
  obtain ⟨vv, c0, hv⟩ := h0.c0
  obtain ⟨av, cv, rfl⟩ := hv.shape
  have hmb : nm n ≤ 2147483649 := by have := h.len; unfold nm nw; omega
  have hm0 : 0 < nm n := by unfold nm nw; omega
  have hal := hA.more hb0.more (nm n) (Nat.le_refl _)
  rw [ah_last] at hal
  have hkb : k < n := Nat.lt_of_lt_of_le hk (rk_le _ _)
  have hsr : ∀ m, Calls Tryz.prog 99 #[.int .i64 (nm n), .func (.func 100) #[] #[.pointer (some ⟨w.heap.size + 1, 0, none⟩), .pointer (some ⟨w.heap.size, 0, none⟩)]] (w0.drewN m) fun e w' => ∃ s : Nat, e = .returned (.int .i64 s) ∧ s < nm n ∧ ah U n s ≤ k ∧ ∃ j, w' = (w0.drewN m).drewN j := fun m => by
    refine (search (nm n) (w.heap.size + 1) w.heap.size (fun s => decide (k < ah U n (s + 1))) (w0.drewN m) hmb (fun a b hab _ ha => ?_) (fun s hs j => ?_)).mono ?_
    · have := ah_mono U n (show a + 1 ≤ b + 1 by omega)
      simp only [decide_eq_true_eq] at ha ⊢
      omega
    · exact find_1 _ c U n s k _ _ ((w0.drewN m).drewN j) (.inl rfl) (hA.more (More.trans hb0.more (More.trans (More.drewN _ m) (More.drewN _ j)))) (by omega) hmb ca ck
    · rintro e w' ⟨r, rfl, hr, h1, h2, j, hj⟩
      have hlt : r < nm n := by
        rcases Nat.lt_or_ge r (nm n) with h | h
        · exact h
        · have := h1 (nm n - 1) (by omega)
          simp only [decide_eq_false_iff_not] at this
          rw [show nm n - 1 + 1 = nm n by omega, ah_last] at this
          omega
      refine ⟨r, rfl, hlt, ?_, j, hj⟩
      by_cases hr0 : r = 0
      · subst hr0; rw [ah_first]; omega
      · have := h1 (r - 1) (by omega)
        simp only [decide_eq_false_iff_not] at this
        rw [show r - 1 + 1 = r by omega] at this
        omega
  have hsp : ∀ s, s < nm n → ∀ w', More w0 w' → Calls Tryz.prog 87 #[.int .i64 s, .pointer (some ⟨c, 0, none⟩)] w' fun e w'' => e = .returned (.int .i64 (ah U n s : Nat)) ∧ ∃ j, w'' = w'.drewN j := fun s hs w' hm => hA.more hb0.more s (by omega) w' hm
  have hal0 : ∀ m, Calls Tryz.prog 87 #[.int .i64 (nm n), .pointer (some ⟨c, 0, none⟩)] (w0.drewN m) fun e w'' => e = .returned (.int .i64 (rk U n : Nat)) ∧ ∃ j, w'' = (w0.drewN m).drewN j := fun m => hal _ (More.drewN _ m)
  have HH := Hid.mk (And.intro h (And.intro hW (And.intro hb0 (And.intro hk h.len))))
  clear hal hA hv hW hb0 h h0 hm
  obtain ⟨M, hM⟩ : ∃ M, nm n = M := ⟨_, rfl⟩
  obtain ⟨K1, hK1⟩ : ∃ K, nm n + 1 = K := ⟨_, rfl⟩
  rw [hK1] at c1
  rw [hM] at hmb hm0 hsr hal0 hsp
  have i1 : (K1 : Int) - 1 = M := by omega
  have i3 : IntKind.i64.wrap (M : Int) = M := by rw [IntKind.wrap_i64]; omega
  have hkd : decide ((k : Int) < 0) = false := by simp
  have hkR : k < rk U n := hk
  generalize hR : rk U n = R at *
  have HM := Hid.mk (And.intro hM (And.intro hK1 hR))
  clear hM hK1 hR hk
  have hmf : ∀ (fn : Fn) (first cap : Array Value) (w : World), (Instr.makeFunc fn first cap).run Tryz.prog w = .ok (.func fn first cap) w := fun _ _ _ _ => rfl
  go_enter Tryz.func86, Tryz.ntmps86
  go_wp2
  go_quiet ((go_at_call 87; exact Calls.quiet_of (hal0 _)))
  go_wp2_with (go_at_call 99; refine (hsr _).mono ?_; rintro e w1 ⟨s, rfl, hs, has, m1, hw1⟩; subst w1)
  have hb3 := HH.out.2.2.1.drewN (nq + m1)
  have hsp3 := fun w' (hm : More (w0.drewN (nq + m1)) w') => hsp s hs w' (More.trans (More.drewN _ _) hm)
  have hm3 := More.drewN w0 (nq + m1)
  generalize w0.drewN (nq + m1) = w3 at *
  obtain ⟨ck3, fk3⟩ := cells1 hb3.ck
  obtain ⟨ca3, fa3⟩ := cells1 hb3.ca
  obtain ⟨A, hAe⟩ : ∃ A, ah U n s = A := ⟨_, rfl⟩
  rw [hAe] at hsp3 has
  have H3 := Hid.mk (And.intro hb3 (And.intro hm3 hAe))
  clear hb3 hm3 hAe hsp hsr hal0 ck ca c1 c2 c0
  have j1 : (k : Int) - A = ((k - A : Nat) : Int) := by omega
  have j2 : IntKind.i64.wrap ((k - A : Nat) : Int) = ((k - A : Nat) : Int) := by rw [IntKind.wrap_i64]; have := HH.out; omega
  go_cut [10] from 42 to 46 (fun v wc => v = .int .i64 s ∧ Hid (Boxes w wc ((k - A : Nat) : Int) (.func (.func 87) #[] #[.pointer (some ⟨c, 0, none⟩)])))
  case first =>
    go_region_with (go_at_call 87; refine (hsp3 _ ?_).mono ?_; exact more_drew _; rintro e w1 ⟨rfl, m2, hw1⟩; subst w1)
    all_goals go_wp2_with fail
    all_goals go_meet
    all_goals exact ⟨rfl, Hid.mk ((H3.out.1.drewN _).set _)⟩
  case rest =>
    obtain ⟨rfl, hb4⟩ := hcut
    replace hb4 := hb4.out
    generalize wc = w4 at *
    obtain ⟨vv, _, hbd, hv, _⟩ := HH.out.1.mem
    obtain ⟨cw, _⟩ := cells3 hbd
    obtain ⟨g, cv, rfl, hg, hcv⟩ := own_at hv (show 0 < nw n by unfold nw; omega)
    have c0 : w4.cell? ⟨d, 0, none⟩ = some (.slice (some ⟨g, 0, none⟩) (nw n) cv) := (hb4.more.cell (p := ⟨d, 0, none⟩) (World.block_lt_of_cell? w _ cw)).trans cw
    obtain ⟨K, hKe⟩ : ∃ K, nw n = K := ⟨_, rfl⟩
    obtain ⟨F8, hF8⟩ : ∃ F8, 8 * s = F8 := ⟨_, rfl⟩
    have e4 : (s : Int) * 8 = F8 := by omega
    have hFK : F8 < K := by have := HM.out.1; unfold nm at this; omega
    have hcF : ¬ cv = F8 := by omega
    have hKb : K ≤ 17179869185 := by have := HH.out.2.2.2.2; unfold nw at hKe; omega
    have hFb : F8 ≤ 17179869185 := by omega
    have hsb : s ≤ 2147483649 := by omega
    rw [hKe] at c0
    have hgc : ∀ j, j < K → ∀ wr, More w wr → wr.cell? ⟨g, j, none⟩ = some (.int .u64 (wd V j : Nat)) := fun j hj wr hm =>
      (hm.cell (p := ⟨g, j, none⟩) (World.block_lt_of_cell? w ⟨g, j, none⟩ (hg j (by omega)))).trans (hg j (by omega))
    have hst : k - A + rk U (64 * (F8 + 0)) = k := by
      have h1 := H3.out.2.2
      rw [ah_in U n s (by have := HM.out.1; omega), hF8] at h1
      rw [Nat.add_zero, h1]; omega
    have H4 := Hid.mk (And.intro hgc (And.intro hKe (And.intro hb4 hst)))
    clear hg hv cw hbd hcv hgc hKe hb4 hst hF8 hsp3 ck3 ca3 fk3 fa3 j1 j2 i1 i3 H3 hs
    go_wp2
    go_loopw [56] (fun i wr => ∃ j Q : Nat, j ≤ K - F8 ∧ i = .int .i64 j ∧ Q ≤ k ∧ Hid (Boxes w wr (Q : Int) (.func (.func 87) #[] #[.pointer (some ⟨c, 0, none⟩)]) ∧ Q + rk U (64 * (F8 + j)) = k)) (fun i _ => K - F8 - (intOf i).toNat)
    case atStart => exact ⟨0, k - A, Nat.zero_le _, rfl, by omega, Hid.mk ⟨H4.out.2.2.1, H4.out.2.2.2⟩⟩
    case round =>
      obtain ⟨j, Q, hj, rfl, hQ, HR⟩ := hrel
      by_cases hjK : j < K - F8
      · have hx := H4.out.1 (F8 + j) (by omega) wr HR.out.1.more
        have hxor := u64_xor_nat (wd V (F8 + j)) F (wd_lt _ _) hF
        rw [HH.out.2.1 (F8 + j) (by have := H4.out.2.1; omega)] at hxor
        obtain ⟨ck5, fk5⟩ := cells1 HR.out.1.ck
        have hu := wd_lt U (F8 + j)
        have hse := fun w => lane_Select (wd U (F8 + j)) hu (Q : Int) w
        have hon := fun w => ones (wd U (F8 + j)) hu w
        rcases sel_word (wd U (F8 + j)) Q with ⟨p, hp, h1, h2, h3⟩ | ⟨h1, h2⟩
        · rw [h1] at hse
          have hfo := sel_found U (F8 + j) p k n hp h2 (by have := HR.out.2; omega) (by have := HM.out.2.2; omega)
          have HF := Hid.mk hfo
          clear hfo h1 h2 h3 hon
          generalize wd U (F8 + j) = x at *
          go_wp2_with (go_at_call 101; refine (hse _).mono ?_; rintro e w1 ⟨rfl, hw1⟩; subst w1)
          go_ret
          refine ⟨?_, HR.out.1.more⟩
          rw [HF.out]
          have hz : ((F8 : Int) + j) * 64 + p = ((64 * (F8 + j) + p : Nat) : Int) := by omega
          exact congrArg (fun z => Ending.returned (Value.int .i64 z)) hz
        · rw [h1] at hse
          have hrk := rk_wd U (F8 + j)
          have HF := Hid.mk (And.intro hrk h2)
          clear h1 hrk
          generalize wd U (F8 + j) = x at *
          go_wp2_with (go_at_call 101; refine (hse _).mono ?_; rintro e w1 ⟨rfl, hw1⟩; subst w1)
          generalize rk x 64 = S at *
          have j1 : (Q : Int) - S = ((Q - S : Nat) : Int) := by omega
          have j2 : IntKind.i64.wrap ((Q - S : Nat) : Int) = ((Q - S : Nat) : Int) := by rw [IntKind.wrap_i64]; have := HH.out.2.2.2.2; omega
          go_region_with (go_at_call 92; refine (hon _).mono ?_; rintro e w1 ⟨rfl, hw1⟩; subst w1)
          all_goals
            go_wp2
            refine ⟨⟨j + 1, Q - S, by omega, by go_num, by omega, Hid.mk ⟨(HR.out.1.drewN _).set _, ?_⟩⟩, by simp [intOf]; omega⟩
            have h1 := HF.out
            have h2 := HR.out.2
            rw [← Nat.add_assoc, h1.1]
            omega
      · obtain rfl : j = K - F8 := by omega
        exfalso
        have h1 := HR.out.2
        have h2 := HM.out.2.2
        have h3 : rk U n ≤ rk U (64 * (F8 + (K - F8))) := rk_mono U (by have := H4.out.2.1; unfold nw at this; omega)
        omega

end Go.Proofs.YtbjgbigalfhnjaaGreatDoor

namespace Go.Proofs.YtbjgbigalfhnjaaGreatDoor
open Go.RowKit

end Go.Proofs.YtbjgbigalfhnjaaGreatDoor

namespace Go.Proofs.YtbjgbigalfhnjaaGreatDoor
open Go.RowKit

set_option maxHeartbeats 800000 in
set_option maxRecDepth 1000000 in
theorem sfind_out_a (d V U n c F : Nat) (k : Int) (base : Nat) (w : World) (h : SDirAt w base d V n) (hA : Ahead 87 w c U n) (hk : k < 0 ∨ (rk U n : Int) ≤ k) :
    Calls Tryz.prog 86 #[.pointer (some ⟨d, 0, none⟩), .int .i64 k, .int .u64 F, .func (.func 87) #[] #[.pointer (some ⟨c, 0, none⟩)]] w fun e w' => e = .returned (.int .i64 (-1)) ∧ More w w' := by
  have hb0 := boxes_new w k (.func (.func 87) #[] #[.pointer (some ⟨c, 0, none⟩)])
  obtain ⟨w0, hw0⟩ : ∃ w0, ((w.alloc (.cells #[.int .i64 k] 3)).alloc (.cells #[.func (.func 87) #[] #[.pointer (some ⟨c, 0, none⟩)]] 41)) = w0 := ⟨_, rfl⟩
  rw [hw0] at hb0
  obtain ⟨ck, _⟩ := cells1 hb0.ck
  obtain ⟨ca, _⟩ := cells1 hb0.ca
  have h0 := (h.more hb0.more).rd
  have c2 := h0.c2
  obtain ⟨vm, c1, hm⟩ := h0.c1
  obtain ⟨am, cm, rfl⟩ := hm.shape
  have HB := Hid.mk hb0.more
  by_cases hn0 : n = 0
  · subst hn0
    clear hA hb0 h h0 hm hk
    go_enter Tryz.func86, Tryz.ntmps86
    go_wp2
    go_ret
    exact ⟨rfl, HB.out⟩
  have hmb : nm n ≤ 2147483649 := by have := h.len; unfold nm nw; omega
  have hal := hA.more hb0.more (nm n) (Nat.le_refl _)
  rw [ah_last] at hal
  have hal0 : ∀ m, Calls Tryz.prog 87 #[.int .i64 (nm n), .pointer (some ⟨c, 0, none⟩)] (w0.drewN m) fun e w'' => e = .returned (.int .i64 (rk U n : Nat)) ∧ ∃ j, w'' = (w0.drewN m).drewN j := fun m => hal _ (More.drewN _ m)
  clear hal hA hb0 h h0 hm
  obtain ⟨M, hM⟩ : ∃ M, nm n = M := ⟨_, rfl⟩
  obtain ⟨K1, hK1⟩ : ∃ K, nm n + 1 = K := ⟨_, rfl⟩
  rw [hK1] at c1
  rw [hM] at hmb hal0
  have i1 : (K1 : Int) - 1 = M := by omega
  have i3 : IntKind.i64.wrap (M : Int) = M := by rw [IntKind.wrap_i64]; omega
  clear hM hK1
  generalize rk U n = R at *
  by_cases hk0 : k < 0
  · have hkd : decide (k < 0) = true := by simpa using hk0
    clear hk
    go_enter Tryz.func86, Tryz.ntmps86
    go_wp2
    go_quiet (fail)
    go_wp2
    go_ret
    exact ⟨rfl, More.trans HB.out (More.drewN _ _)⟩
  · have hkd : decide (k < 0) = false := by simpa using hk0
    have hkR : (R : Int) ≤ k := by omega
    clear hk
    go_enter Tryz.func86, Tryz.ntmps86
    go_wp2
    go_quiet ((go_at_call 87; exact Calls.quiet_of (hal0 _)))
    go_wp2
    go_ret
    exact ⟨rfl, More.trans HB.out (More.drewN _ _)⟩

theorem sfind_a_all (d V U n c F : Nat) (k : Int) (base : Nat) (w : World) (h : SDirAt w base d V n) (hA : Ahead 87 w c U n) (hF : F < 18446744073709551616) (hW : ∀ i, i < nw n → wd V i ^^^ F = wd U i) :
    Calls Tryz.prog 86 #[.pointer (some ⟨d, 0, none⟩), .int .i64 k, .int .u64 F, .func (.func 87) #[] #[.pointer (some ⟨c, 0, none⟩)]] w fun e w' => e = .returned (.int .i64 (sel U k n)) ∧ More w w' := by
  by_cases hk : k < 0 ∨ (rk U n : Int) ≤ k
  · rw [sel_outN U k n hk]; exact sfind_out_a d V U n c F k base w h hA hk
  · obtain ⟨k, rfl⟩ := Int.eq_ofNat_of_zero_le (show 0 ≤ k by omega)
    exact sfind_a d V U n c F k base w h hA hF hW (by omega)

theorem box_later {w : World} {p : Value} {t : TypeId} {w' : World} (hm : More (w.alloc (.cells #[p] t)) w') : w'.cell? ⟨w.heap.size, 0, none⟩ = some p :=
  (hm.cell (p := ⟨w.heap.size, 0, none⟩) (by simp)).trans (by simp)

theorem sdir_one (d V n : Nat) (k : Int) (base : Nat) (w : World) (h : SDirAt w base d V n) :
    Calls Tryz.prog 60 #[.pointer (some ⟨d, 0, none⟩), .int .i64 k] w fun e w' => e = .returned (.int .i64 (sel V k n)) ∧ More w w' := by
  have hm := more_alloc w (.cells #[.pointer (some ⟨d, 0, none⟩)] 87)
  have hf := sfind_a_all d V V n w.heap.size 0 k base _ (h.more hm) (fun m hm' w' hmo => one_ahead d V n m _ w' ((h.more hm).more hmo).rd (box_later hmo) hm') (by decide) (fun i _ => Nat.xor_zero _)
  have HH := Hid.mk hm
  clear h hm
  have hmf : ∀ (fn : Fn) (first cap : Array Value) (w : World), (Instr.makeFunc fn first cap).run Tryz.prog w = .ok (.func fn first cap) w := fun _ _ _ _ => rfl
  go_enter Tryz.func60, Tryz.ntmps60
  go_wp2_with (go_at_call 86; refine hf.mono ?_; rintro e w1 ⟨rfl, hm1⟩; have H1 := Hid.mk hm1; clear hm1)
  go_ret
  exact ⟨rfl, More.trans HH.out H1.out⟩

theorem none_find (G : Nat) (cs : Array Value) (k : Int) (F : Nat) (w : World) :
    Calls Tryz.prog 86 #[.pointer none, .int .i64 k, .int .u64 F, .func (.func G) #[] cs] w fun e w' => e = .returned (.int .i64 (-1)) ∧ More w w' := by
  have hb0 := (boxes_new w k (.func (.func G) #[] cs)).more
  have HB := Hid.mk hb0
  clear hb0
  go_enter Tryz.func86, Tryz.ntmps86
  go_wp2
  go_ret
  exact ⟨rfl, HB.out⟩
theorem none_one (k : Int) (w : World) : Calls Tryz.prog 60 #[.pointer none, .int .i64 k] w fun e w' => e = .returned (.int .i64 (-1)) ∧ More w w' := by
  have hm := more_alloc w (.cells #[.pointer none] 87)
  have hf := fun G cs w => none_find G cs k 0 w
  have HH := Hid.mk hm
  clear hm
  have hmf : ∀ (fn : Fn) (first cap : Array Value) (w : World), (Instr.makeFunc fn first cap).run Tryz.prog w = .ok (.func fn first cap) w := fun _ _ _ _ => rfl
  go_enter Tryz.func60, Tryz.ntmps60
  go_wp2_with (go_at_call 86; refine (hf _ _ _).mono ?_; rintro e w1 ⟨rfl, hm1⟩; have H1 := Hid.mk hm1; clear hm1)
  go_ret
  exact ⟨rfl, More.trans HH.out H1.out⟩

end Go.Proofs.YtbjgbigalfhnjaaGreatDoor
