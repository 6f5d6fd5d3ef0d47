/-
  WindowEach, walked: the n-grams of all lists, gone over.
-/
import Derived.Test.YtiiflegfbieblaaWinLawA
namespace Go.Proofs.Ytiiflegfbieblaa
open Go.RowKit Go.Shelf
attribute [local go_sem] Oper.semAt_some

theorem eql_func_nil {P : Program} (w : World) (t : TypeId) (ps rs : Array TypeId) (v : Bool) (fn : Fn) (xs ys : Array Value) (h : P.underlying t = some (.func ps rs v)) :
    (binOp .eql t (.func fn xs ys) .nilFunc).run P w = .ok (.bool false) w := by
  have e : ∀ d, (Op.equalIn (d + 1) t (.func fn xs ys) .nilFunc).run P w = .ok false w := fun d => by simp [Op.equalIn, run_underlying h]
  have e := e 9999
  simp only [binOp]
  simp [Op.equal, Op.maxDepth, e]

theorem boxes2 (w : World) (stop : Int) (w3 : World) (hw3 : (w.alloc (.cells #[.int .i64 stop] 3)).alloc (.cells #[.bool false] 4) = w3) :
    More w w3 ∧ Boxed w3 w.heap.size 3 (.int .i64 stop) ∧ Boxed w3 (w.heap.size + 1) 4 (.bool false) := two_boxes hw3.symm

theorem held_to {w w' : World} {p : Addr} {u : Value} (h : w.cell? p = some u) (k : More w w') : w'.cell? p = some u := (k.cell (World.block_lt_of_cell? _ _ h)).trans h
theorem More.drewn_of {w w' : World} {m : Nat} (h : w' = w.drewN m) : More w w' := by rw [h]; exact More.drewN _ _
/-- The way out: true is stored; the loop's block is shut. -/
theorem each_end (n : Nat) (w V : World) (D : Nat) (hD : w.heap.size + 1 < D) {tmps : Array Value}
    (br : Boxed V (w.heap.size + 1) 4 (.bool false)) (hV : Below w.heap.size w V) (hK : V.heap[D]? = some (.deferred (some []))) (h6 : tmps[6]?.getD undef = .pointer (some ⟨w.heap.size + 1, 0, none⟩)) :
    LeavesInM Fence.wide n Try.prog Try.f5 tmps (fun e W' => e = .returned (.bool true) ∧ Below w.heap.size w W') [{ target := .collected D, args := #[] }] .returning (V.setCell ⟨w.heap.size + 1, 0, none⟩ (.bool true)) := by
  have br' := br.set (.bool true)
  have hV' : Below w.heap.size w (V.setCell ⟨w.heap.size + 1, 0, none⟩ (.bool true)) := hV.setCell (p := ⟨w.heap.size + 1, 0, none⟩) (by simp) _
  have hK' := (KeepsOthers.setCell V ⟨w.heap.size + 1, 0, none⟩ (.bool true)).same D _ hK rfl
  generalize V.setCell ⟨w.heap.size + 1, 0, none⟩ (.bool true) = Z at *
  refine leaves_marks (B := w.heap.size + 1 + 1) (.cons (by omega) hK' (fun _ h => by cases h) .nil) fun w' hw' => ?_
  have br3 : Boxed w' (w.heap.size + 1) 4 (.bool true) := (hw'.block _ (by omega)).trans br'
  have hc := br3.cell
  refine ⟨.bool true, ?_, rfl, Below.trans hV' (hw'.mono (by omega))⟩
  simp [results, Try.f5, go_sem, h6, hc]

set_option maxRecDepth 1000000 in
set_option maxHeartbeats 6400000 in
theorem each_goes (n : Nat) (hn : 40 ≤ n) (a : Value) (L : List (List Int)) (m stop : Int) (w : World) (ha : LL w a L) (hl : L.length ≤ 12) (hx : ∀ x ∈ L, x.length ≤ 30) (hm : m ≤ 9223372036854775807) :
    CallsIn Fence.wide n Try.prog 5 #[a, .int .i64 m, .int .i64 stop] w fun e W' => e = .returned (.bool true) ∧ More w W' := by
  have h1 : 1 ≤ n := by omega
  obtain ⟨w3, hw3⟩ : ∃ w3, (w.alloc (.cells #[.int .i64 stop] 3)).alloc (.cells #[.bool false] 4) = w3 := ⟨_, rfl⟩
  obtain ⟨hM3, b0, b1⟩ := boxes2 w stop w3 hw3
  have hre := rf_each a L m w3 (ha.more hM3) hl hx hm
  have hwe := fun W (h : More w3 W) => w_each a L m W ((ha.more hM3).more h) hl hx
  have hseq := fun Be lo W (hE : EaAt W lo Be L m) => each_in (n - 1) (by omega) Be lo L m hm hl hx W hE
  have hGl := eac_take_len L m hx hl L.length
  rw [List.take_length] at hGl
  have hGs : ∀ q, q < (eac L m).length → ((eac L m).getD q []).length ≤ 1000000 := fun q hq => Nat.le_trans (eac_short (getD_in (d := []) hq) hx) (by decide)
  have HA := Hid.mk ha
  have hl' : ¬ (12 : Int) < (L.length : Int) := by omega
  obtain ⟨ao, ca, rfl⟩ := ha.shape
  obtain ⟨K, hK⟩ : ∃ K, L.length = K := ⟨_, rfl⟩
  have HK := Hid.mk (And.intro hK (fun r (hr : r < L.length) => hx _ (getD_in (d := []) hr)))
  have H0 := Hid.mk (And.intro hM3 (And.intro b0 b1))
  rw [hK] at hre hwe HA hl hl' ⊢
  obtain ⟨A, hA⟩ : ∃ A, eac L m = A := ⟨_, rfl⟩
  rw [hA] at hre hseq hGl hGs
  obtain ⟨T, hT⟩ : ∃ T, A.length = T := ⟨_, rfl⟩
  have HT := Hid.mk (And.intro hT hGs)
  rw [hT] at hGl hseq
  clear ha hx hK hM3 b0 b1 hT hGs
  refine callsIn_of_wp_marks Try.func5 rfl trivial ?_ rfl
  simp only [Try.ntmps5, List.size_toArray, List.length_cons, List.length_nil, Nat.reduceAdd, Nat.reduceSub, Array.replicate_succ, Array.replicate_zero, List.push_toArray, List.append_toArray, List.nil_append, List.cons_append]
  gi_wp2
  clear hw3
  gi_loopw [7] (fun i wr => ∃ r : Nat, r ≤ K ∧ i = .int .i64 r ∧ wr = w3) (fun i _ => K - (intOf i).toNat)
  case atStart => exact ⟨0, by omega, rfl, rfl⟩
  case round =>
    obtain ⟨r, hr, rfl, rfl⟩ := hrel
    by_cases hlt : r < K
    · obtain ⟨gb, ob, pu, rfl, hgb, cp, hP, _⟩ := (HA.out.more H0.out.1).at (j := r) (by rw [HK.out.1]; exact hlt)
      have hPl := HK.out.2 r (by rw [HK.out.1]; exact hlt)
      obtain ⟨po, pc, rfl⟩ := hP.shape
      obtain ⟨pl, hpl⟩ : ∃ pl, (L.getD r []).length = pl := ⟨_, rfl⟩
      rw [hpl] at cp hPl
      have hbig' : ¬ (30 : Int) < pl := by omega
      clear hP hpl hre hwe hseq
      gi_wp2
      go_roundw
      case rel => exact ⟨r + 1, by omega, by go_num, trivial⟩
      case measure => simp [intOf]; omega
    · obtain rfl : r = K := by omega
      gi_wp2_with (first
        | (refine ⟨trivial, ?_⟩; gi_at_call 18; refine (callsIn_wide.2 hre).mono ?_; rintro e wS ⟨vS, rfl, hE, hM⟩; obtain ⟨aS, cS, hvS⟩ := hE.shape; rw [HT.out.1] at hvS; subst hvS; have HS := Hid.mk (And.intro hE hM); clear hE hM hre
           obtain ⟨wT, hwT⟩ : ∃ wT, wS.alloc (.cells #[.slice none 0 0] 34) = wT := ⟨_, rfl⟩
           obtain ⟨bT, hST⟩ := one_box hwT
           have cT := bT.cell
           have fT := bT.frozen
           obtain ⟨wR, hwR⟩ : ∃ wR, wT.setCell ⟨wS.heap.size, 0, none⟩ (.slice aS T cS) = wR := ⟨_, rfl⟩
           have hbR : Boxed wR wS.heap.size 34 (.slice aS T cS) := (by rw [← hwR]; exact bT.set _)
           have hSR : More wS wR := (by rw [← hwR]; exact hST.setCell (p := ⟨wS.heap.size, 0, none⟩) (Nat.le_refl _) _)
           have HR := Hid.mk (And.intro hbR hSR)
           clear bT hST hbR hSR)
        | (refine ⟨trivial, ?_⟩; gi_at_call 19; refine (callsIn_wide.2 (hwe wR (More.trans HS.out.2 HR.out.2))).mono ?_; rintro e w5 ⟨Be, rfl, hE, hM⟩; have H5 := Hid.mk (And.intro hE hM); clear hE hM hwe))
      rw [eql_func_nil _ 45 _ _ _ _ _ _ Try.underlying45]
      gi_wp2
      have hM0 := More.trans H0.out.1 HS.out.2
      have hM1 := More.trans HR.out.2 H5.out.2
      have hMw := More.trans hM0 hM1
      have b0 := boxed_more H0.out.2.1 (More.trans HS.out.2 hM1)
      have b1 := boxed_more H0.out.2.2 (More.trans HS.out.2 hM1)
      have bw := boxed_more HR.out.1 H5.out.2
      have HWn := Hid.mk (show ∀ V, More w5 V → ∀ q, q < T → ∃ gS u, aS = some ⟨gS, 0, none⟩ ∧ V.cell? ⟨gS, q, none⟩ = some u ∧ IL V u (A.getD q []) from fun V hV q hq => by
        obtain ⟨gS, u, e, hc, hu⟩ := HS.out.1.at (j := q) (by rw [HT.out.1]; exact hq)
        exact ⟨gS, u, e, held_to hc (More.trans hM1 hV), hu.more (More.trans HS.out.2 (More.trans hM1 hV))⟩)
      have hW0 : More w5 (w5.alloc (.cells #[.int .i64 0] 3)) := more_alloc _ _
      have n0 : Boxed (w5.alloc (.cells #[.int .i64 0] 3)) w5.heap.size 3 (.int .i64 0) := Boxed.new _ _ _
      have hseq5 := hseq Be wR.heap.size w5 H5.out.1
      have hb1 : w.heap.size + 1 < w5.heap.size := b1.lt
      have HMw := Hid.mk hMw
      generalize w5.alloc (.cells #[.int .i64 0] 3) = W0 at hW0 n0 ⊢
      have hzk : w5.heap.size < W0.heap.size := n0.lt
      clear hseq hwT hwR cT fT hM0 hM1 hMw HR
      refine range_give rfl h1 (gf := 42) (lb := #[.pointer (some ⟨Be, 0, none⟩)]) rfl trivial (enters_of Try.func42 (by kernel_rfl) rfl)
        hseq5 hW0.size hW0 (fun _ => rfl) (fun base pre x A A' h k => GvG.stay base pre x A A' h k)
        (fun pre E V => Boxed V w5.heap.size 3 (.int .i64 pre.length) ∧ More w5 V ∧ ¬ (0 < stop ∧ stop ≤ pre.length) ∧ (∀ j, j < W0.heap.size → E j))
        (fun c pre E V => (c = .exit 2 ∧ 0 < stop ∧ (pre.length : Int) = stop) ∧ Boxed V w5.heap.size 3 (.int .i64 pre.length) ∧ More w5 V ∧ (∀ j, j < W0.heap.size → E j))
        (fun s E A A' h k => ⟨k.boxed h.1 (h.2.2.2 _ hzk), Below.trans h.2.1 (k.below fun j hj => h.2.2.2 j (by omega)), h.2.2.1, h.2.2.2⟩)
        (fun c s E A A' h k => ⟨h.1, k.boxed h.2.1 (h.2.2.2 _ hzk), Below.trans h.2.2.1 (k.below fun j hj => h.2.2.2 j (by omega)), h.2.2.2⟩)
        (fun _ _ _ h => h.2.1)
        (fun s E A A' h _ k => ⟨boxed_more h.1 k, More.trans h.2.1 k, h.2.2.1, fun j hj => .inl (h.2.2.2 j hj)⟩)
        ⟨n0, hW0, by simp, fun _ h => h⟩
        (fun x => { tmps := #[.slice ao r ca, .int .i64 m, .int .i64 stop, undef, undef, .pointer (some ⟨w.heap.size, 0, none⟩), .pointer (some ⟨w.heap.size + 1, 0, none⟩), .int .i64 r, .pointer (some ⟨wS.heap.size, 0, none⟩), eaV Be, .pointer (some ⟨w5.heap.size, 0, none⟩), x, .slice ao r ca, .int .i64 r, .bool false, undef, .int .i64 r, .slice ao r ca, .int .i64 r, .bool false, u20, u21, u22, u23, u24, u25, u26, u27, u28, .slice ao r ca, .int .i64 m, .slice aS T cS, .slice ao r ca, .int .i64 m, eaV Be, eaV Be, .bool false, eaV Be, x, undef, undef, undef, undef, undef, undef, undef, undef, undef, undef, undef, undef, undef, undef, undef, undef, undef, undef, undef, undef, undef, undef, undef, undef, undef, undef, undef, undef, undef, undef], defers := [] }) ?assign ?body ?done ?stop
      case assign =>
        intro l2 x V K' hK'
        gi_wp2
        exact hK'
      case body =>
        rintro l2 pre x V E hSp ⟨bk, hM, hns, hE⟩ hgv hgb hwE hlw hszV hlen
        have hd : 1 ≤ n - 1 - 1 := by omega
        obtain ⟨q, hq⟩ : ∃ q, pre.length = q := ⟨_, rfl⟩
        have HQ : Hid ((pre ++ [x]).length = q + 1) := Hid.mk (by rw [List.length_append, List.length_singleton, hq])
        rw [hq] at bk hlen hns
        obtain ⟨gS, u, rfl, cu, hu⟩ := HWn.out V hM q hlen
        have hNx : NL V (W0.heap.size + 2) x (A.getD q []) := by
          have h5 : NL V (W0.heap.size + 2) x (A.getD pre.length []) := hgv
          rwa [hq] at h5
        have his := rf_intsD x u (A.getD q []) (A.getD q []) V hNx.il hu (HT.out.2 q (by rw [HT.out.1]; exact hlen))
        rw [decide_eq_true rfl] at his
        obtain ⟨xo, xc, rfl⟩ := hNx.shape
        have ck := bk.cell
        have cw := (boxed_more bw hM).cell
        have hlenI : ¬ (T : Int) ≤ (q : Int) := by omega
        have HB := Hid.mk (And.intro bk (And.intro hM hE))
        have hltk := bk.lt
        clear hgv hgb hq hSp hu hNx bk hseq5
        by_cases hst : (q : Int) + 1 = stop
        · subst hst
          gi_wp2_with (refine ⟨trivial, ?_⟩; gi_at_call 10; refine (CallsIn.inRound l2 (callsIn_wide.2 his)).mono ?_; rintro e w7 ⟨rfl, qq, hw7⟩; have hm7 := More.drewn_of hw7; clear hw7
                       have bk7 := boxed_more HB.out.1 hm7; have ck7 := bk7.cell; have fk7 := bk7.frozen; have b37 := bk7.set (.int .i64 ((q : Int) + 1)); have c37 := b37.cell; have c07 := ((boxed_more b0 (More.trans HB.out.2.1 hm7)).other (show w.heap.size ≠ w5.heap.size by omega) (.int .i64 ((q : Int) + 1))).cell; have H7 := Hid.mk (And.intro hm7 b37); clear hm7 bk7 b37)
          exact ⟨_, ((Turn.of_more (lo := 0) (C := E) H7.out.1).setCell (p := ⟨w5.heap.size, 0, none⟩) (Nat.zero_le _) (.inl (HB.out.2.2 _ (show w5.heap.size < W0.heap.size by omega))) _), ⟨rfl, by omega, by rw [HQ.out]; simp⟩, by rw [HQ.out]; simpa using H7.out.2, (More.trans HB.out.2.1 H7.out.1).setCell (p := ⟨w5.heap.size, 0, none⟩) (Nat.le_refl _) _, fun j hj => .inl (HB.out.2.2 j hj)⟩
        · have ht : ((q : Int) + 1 == stop) = false := by simpa using hst
          gi_wp2_with (refine ⟨trivial, ?_⟩; gi_at_call 10; refine (CallsIn.inRound l2 (callsIn_wide.2 his)).mono ?_; rintro e w7 ⟨rfl, qq, hw7⟩; have hm7 := More.drewn_of hw7; clear hw7
                       have bk7 := boxed_more HB.out.1 hm7; have ck7 := bk7.cell; have fk7 := bk7.frozen; have b37 := bk7.set (.int .i64 ((q : Int) + 1)); have c37 := b37.cell; have c07 := ((boxed_more b0 (More.trans HB.out.2.1 hm7)).other (show w.heap.size ≠ w5.heap.size by omega) (.int .i64 ((q : Int) + 1))).cell; have H7 := Hid.mk (And.intro hm7 b37); clear hm7 bk7 b37)
          exact ⟨_, ((Turn.of_more (lo := w5.heap.size) (C := E) H7.out.1).setCell (p := ⟨w5.heap.size, 0, none⟩) (Nat.le_refl _) (.inl (HB.out.2.2 _ (show w5.heap.size < W0.heap.size by omega))) _), by rw [HQ.out]; simpa using H7.out.2, (More.trans HB.out.2.1 H7.out.1).setCell (p := ⟨w5.heap.size, 0, none⟩) (Nat.le_refl _) _, by rw [HQ.out]; omega, fun j hj => .inl (HB.out.2.2 j hj)⟩
      case done =>
        rintro D ys E V hD hED hys ⟨bk, hM, hns, hE⟩ hwE hlow hKD
        rw [hys] at bk
        have ck := bk.cell
        have cw := (boxed_more bw hM).cell
        have c0 := (boxed_more b0 hM).cell
        have br := boxed_more b1 hM
        have hV := More.trans HMw.out hM
        clear hseq5
        gi_wp2_with (refine ⟨trivial, ?_⟩; gi_at_call 8; refine (callsIn_wide.2 (live_true _)).mono ?_; rintro e w' ⟨rfl, hm⟩; have cr := (boxed_more br hm).cell; have fr := (boxed_more br hm).frozen)
        exact each_end n w _ D (by omega) (boxed_more br hm) (More.trans hV hm) ((hm.block D (Array.getElem?_eq_some_iff.1 hKD).1).trans hKD) rfl
      case stop =>
        rintro D cc pre E V hD hED hSp ⟨⟨rfl, hst, hlen⟩, bk, hM, hE⟩ hwE hlow hKD
        rw [hlen] at bk
        have ck := bk.cell
        have cw := (boxed_more bw hM).cell
        have c0 := (boxed_more b0 hM).cell
        have br := boxed_more b1 hM
        have hV := More.trans HMw.out hM
        clear hseq5
        by_cases hse : stop = (T : Int)
        · have hbe : (stop == (T : Int)) = true := by simpa using hse
          clear hlen hse
          gi_wp2_with (refine ⟨trivial, ?_⟩; gi_at_call 8; refine (callsIn_wide.2 (live_true _)).mono ?_; rintro e w' ⟨rfl, hm⟩; have cr := (boxed_more br hm).cell; have fr := (boxed_more br hm).frozen)
          exact each_end n w _ D (by omega) (boxed_more br hm) (More.trans hV hm) ((hm.block D (Array.getElem?_eq_some_iff.1 hKD).1).trans hKD) rfl
        · have hbe : (stop == (T : Int)) = false := by simpa using hse
          clear hlen hse
          gi_wp2_with (refine ⟨trivial, ?_⟩; gi_at_call 8; refine (callsIn_wide.2 (live_true _)).mono ?_; rintro e w' ⟨rfl, hm⟩; have cr := (boxed_more br hm).cell; have fr := (boxed_more br hm).frozen)
          exact each_end n w _ D (by omega) (boxed_more br hm) (More.trans hV hm) ((hm.block D (Array.getElem?_eq_some_iff.1 hKD).1).trans hKD) rfl

set_option maxHeartbeats 1600000 in
set_option maxRecDepth 1000000 in
theorem each_big (a : Value) (L : List (List Int)) (m stop : Int) (w : World) (ha : LL w a L) (hb : ¬ (L.length ≤ 12 ∧ ∀ x ∈ L, x.length ≤ 30)) :
    Calls Try.prog 5 #[a, .int .i64 m, .int .i64 stop] w fun e W' => e = .returned (.bool true) ∧ More w W' := by
  obtain ⟨w3, hw3⟩ : ∃ w3, (w.alloc (.cells #[.int .i64 stop] 3)).alloc (.cells #[.bool false] 4) = w3 := ⟨_, rfl⟩
  obtain ⟨hM3, b0, b1⟩ := boxes2 w stop w3 hw3
  have HA := Hid.mk (ha.more hM3)
  have H0 := Hid.mk (And.intro hM3 b1)
  have hlv := fun w => live_true w
  obtain ⟨ao, ca, rfl⟩ := ha.shape
  obtain ⟨K, hK⟩ : ∃ K, L.length = K := ⟨_, rfl⟩
  rw [hK] at HA ⊢
  by_cases h1 : 12 < K
  · have h1' : (12 : Int) < (K : Int) := by omega
    clear hM3 b0 b1 ha hb
    go_enter Try.func5, Try.ntmps5
    go_wp2_with (go_at_call 8; refine (hlv _).mono ?_; rintro e w5 ⟨rfl, hm⟩; have br := boxed_more H0.out.2 hm; have cr := br.cell; have fr := br.frozen; have hc := (br.set (.bool true)).cell; have H5 := Hid.mk hm; clear hm)
    refine bodyPost_ret (v := .bool true) ?_ rfl ⟨rfl, ?_⟩
    · simp [results, Try.f5, go_sem, hc]
    · exact (More.trans H0.out.1 H5.out).setCell (p := ⟨w.heap.size + 1, 0, none⟩) (by simp) _
  · have h1' : ¬ (12 : Int) < (K : Int) := by omega
    have HB := Hid.mk (show ¬ ∀ j, j < L.length → (L.getD j []).length ≤ 30 from fun h => hb ⟨by omega, fun x hx => by
      obtain ⟨j, hj, rfl⟩ := List.getElem_of_mem hx
      have := h j hj
      rwa [List.getD_eq_getElem?_getD, List.getElem?_eq_getElem hj] at this⟩)
    have HK := Hid.mk hK
    clear hM3 b0 b1 ha hb hK
    go_enter Try.func5, Try.ntmps5
    go_wp2
    clear hw3
    go_loopw [7] (fun i wr => ∃ r : Nat, r ≤ K ∧ i = .int .i64 r ∧ (∀ j, j < r → (L.getD j []).length ≤ 30) ∧ wr = w3) (fun i _ => K - (intOf i).toNat)
    case atStart => exact ⟨0, by omega, rfl, (fun j h => by omega), rfl⟩
    case round =>
      obtain ⟨r, hr, rfl, hsm, rfl⟩ := hrel
      by_cases hlt : r < K
      · obtain ⟨gb, ob, pu, rfl, hgb, cp, hP, _⟩ := HA.out.at (j := r) (by rw [HK.out]; exact hlt)
        obtain ⟨po, pc, rfl⟩ := hP.shape
        obtain ⟨pl, hpl⟩ : ∃ pl, (L.getD r []).length = pl := ⟨_, rfl⟩
        rw [hpl] at cp
        have HS := Hid.mk (And.intro hsm hpl)
        clear hP hsm hpl
        by_cases hbig : 30 < pl
        · have hbig' : (30 : Int) < pl := by omega
          go_wp2_with (go_at_call 8; refine (hlv _).mono ?_; rintro e w5 ⟨rfl, hm⟩; have br := boxed_more H0.out.2 hm; have cr := br.cell; have fr := br.frozen; have hc := (br.set (.bool true)).cell; have H5 := Hid.mk hm; clear hm)
          refine bodyPost_ret (v := .bool true) ?_ rfl ⟨rfl, ?_⟩
          · simp [results, Try.f5, go_sem, hc]
          · exact (More.trans H0.out.1 H5.out).setCell (p := ⟨w.heap.size + 1, 0, none⟩) (by simp) _
        · have hbig' : ¬ (30 : Int) < pl := by omega
          go_wp2
          go_roundw
          case rel => exact ⟨r + 1, by omega, by go_num, (fun j hj => by
            by_cases hjr : j = r
            · subst hjr; rw [HS.out.2]; omega
            · exact HS.out.1 j (by omega)), trivial⟩
          case measure => simp [intOf]; omega
      · obtain rfl : r = K := by omega
        exact absurd (fun j hj => hsm j (by rw [← HK.out]; exact hj)) HB.out

theorem windowEach (a : Value) (L : List (List Int)) (m stop : Int) (w : World) (ha : LL w a L) (hm : m ≤ 9223372036854775807) :
    Calls Try.prog 5 #[a, .int .i64 m, .int .i64 stop] w fun e W' => e = .returned (.bool true) ∧ More w W' := by
  by_cases hb : L.length ≤ 12 ∧ ∀ x ∈ L, x.length ≤ 30
  · exact (callsIn_wide (n := 40)).1 (each_goes 40 (Nat.le_refl _) a L m stop w ha hb.1 hb.2 hm)
  · exact each_big a L m stop w ha hb
end Go.Proofs.Ytiiflegfbieblaa
