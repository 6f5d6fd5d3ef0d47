/-
  DirGoes walked: both goings over, the one to the end and the one that may be left, and the counts behind them.
-/
import Derived.Test.YtmhbejgmcphebaaDoorSelFromA
import Derived.Test.YtmhbejgmcphebaaDoorSelLive
namespace Go.Proofs.YtmhbejgmcphebaaDoor
open Go.RowKit Go.Shelf
attribute [local go_sem] Oper.semAt_some

theorem eql_func_nil {P : Program} (w : World) (t : TypeId) (ps rs : Array TypeId) (v : Bool) (fn : Fn) (xs ys : Array Value) (h : P.underlying t = some (.func ps rs v)) :
    (binOp .eql t (.func fn xs ys) .nilFunc).run P w = .ok (.bool false) w := by
  have e : ∀ d, (Op.equalIn (d + 1) t (.func fn xs ys) .nilFunc).run P w = .ok false w := fun d => by simp [Op.equalIn, run_underlying h]
  have e := e 9999
  simp only [binOp]
  simp [Op.equal, Op.maxDepth, e]

/-- What has come is the first ones. -/
def Good (V n k : Nat) (pre : List (Int × Int)) : Prop := pre = goL V n k pre.length
theorem good_all (V n k c : Nat) : Good V n k (goL V n k c) := by unfold Good; rw [goL_len]
theorem good_snoc {V n k : Nat} {pre : List (Int × Int)} {x : Int × Int} (h : Good V n k (pre ++ [x])) : x.1 = ((k + pre.length : Nat) : Int) ∧ x.2 = ((pl V n (k + pre.length) : Nat) : Int) := by
  unfold Good at h
  rw [List.length_append, List.length_singleton, goL_succ] at h
  have h2 := (List.append_inj' h rfl).2
  simp at h2
  rw [h2]
  exact ⟨by simp, rfl⟩

/-- The blocks of a row that was there in w2 lie below w2's end. -/
theorem rowBlk_lt {w2 w : World} {base b V n k : Nat} (h : RowAt w2 base b V n) (hm : More w2 w) (hk : RowBlk w b k) : k < w2.heap.size := by
  obtain ⟨v, hb, hown⟩ := h.mem
  rcases hk with rfl | ⟨v', y, hb', hv⟩
  · exact lt_of_block hb
  · rw [hm.block b (lt_of_block hb), hb] at hb'
    simp at hb'
    obtain ⟨rfl, _⟩ := hb'
    exact (hown.lt k hv).2

theorem from_call (n d : Nat) (k : Int) (w : World) : CallsIn Fence.wide n Tryd.prog 11 #[.pointer (some ⟨d, 0, none⟩), .int .i64 k] w fun e w' => e = .returned (.func (.func 24) #[] #[.pointer (some ⟨w.heap.size + 1, 0, none⟩), .pointer (some ⟨w.heap.size, 0, none⟩)]) ∧ w' = (w.alloc (.cells #[.pointer (some ⟨d, 0, none⟩)] 30)).alloc (.cells #[.int .i64 k] 3) := by
  refine callsIn_of_wp Tryd.func11 rfl trivial ?_ rfl
  simp only [Tryd.ntmps11, List.size_toArray, List.length_cons, List.length_nil, Nat.reduceAdd, Nat.reduceSub, Array.replicate_succ, Array.replicate_zero, List.push_toArray, List.append_toArray, List.nil_append, List.cons_append]
  gi_wp2
  go_ret
  exact ⟨rfl, rfl⟩

theorem boxed_put {W : World} {B : Nat} {t : TypeId} {v : Value} (h : Boxed W B t v) (D : Nat) (o : Obj) (hne : B ≠ D) : Boxed (W.putObj D o) B t v := (World.putObj_heap_other hne).trans h

/-- The way out: true is stored; both loops' blocks are shut. -/
theorem law_end (n : Nat) (w V : World) (D D2 : Nat) (hne : D ≠ D2) (hD : w.heap.size ≤ D) (hD2 : w.heap.size ≤ D2) {tmps : Array Value} {a0 a1 : Array Value}
    (br : Boxed V (w.heap.size + 1 + 1) 4 (.bool false)) (hB : Below w.heap.size w V) (hK : V.heap[D]? = some (.deferred (some []))) (hK2 : V.heap[D2]? = some (.deferred (some []))) (h6 : tmps[6]?.getD undef = .pointer (some ⟨w.heap.size + 1 + 1, 0, none⟩)) :
    LeavesInM Fence.wide n Tryd.prog Tryd.f3 tmps (fun e W' => e = .returned (.bool true) ∧ Below w.heap.size w W') [{ target := .collected D2, args := a0 }, { target := .collected D, args := a1 }] .returning (V.setCell ⟨w.heap.size + 1 + 1, 0, none⟩ (.bool true)) := by
  have br' := br.set (.bool true)
  have hB' : Below w.heap.size w (V.setCell ⟨w.heap.size + 1 + 1, 0, none⟩ (.bool true)) := hB.setCell (p := ⟨w.heap.size + 1 + 1, 0, none⟩) (by simp; omega) _
  have hK' := (KeepsOthers.setCell V ⟨w.heap.size + 1 + 1, 0, none⟩ (.bool true)).same D _ hK rfl
  have hK2' := (KeepsOthers.setCell V ⟨w.heap.size + 1 + 1, 0, none⟩ (.bool true)).same D2 _ hK2 rfl
  generalize V.setCell ⟨w.heap.size + 1 + 1, 0, none⟩ (.bool true) = Z at *
  have n1 : w.heap.size + 1 + 1 ≠ D := fun e => by rw [← e, show Z.heap[w.heap.size + 1 + 1]? = _ from br'] at hK'; cases hK'
  have n2 : w.heap.size + 1 + 1 ≠ D2 := fun e => by rw [← e, show Z.heap[w.heap.size + 1 + 1]? = _ from br'] at hK2'; cases hK2'
  have hK3 : (Z.putObj D2 (.deferred none)).heap[D]? = some (.deferred (some [])) := (World.putObj_heap_other hne).trans hK'
  have br3 := boxed_put (boxed_put br' D2 (.deferred none) n2) D (.deferred none) n1
  have hB3 := (hB'.trans (below_putObj w.heap.size Z D2 (.deferred none) hD2)).trans (below_putObj w.heap.size _ D (.deferred none) hD)
  refine ⟨by simp, .inl ⟨_, _, rfl, run_takeDeferred hK2', by simp, .inl ⟨_, _, rfl, run_takeDeferred hK3, ?_⟩⟩⟩
  have hc := br3.cell
  refine ⟨.bool true, ?_, rfl, hB3⟩
  simp [results, Tryd.f3, go_sem, h6, hc]

set_option maxRecDepth 1000000 in
set_option maxHeartbeats 4000000 in
theorem goes (n : Nat) (hn : 8 ≤ n) (v : Value) (L T x N : Nat) (f : Nat → Nat) (k stop : Int) (w : World) (h : Rd w v L f) (hf : ∀ j, j < L → f j < 18446744073709551616) (s1 : L ≤ 6) (s2 : T ≤ 8) (hx : x < 18446744073709551616) (s3 : N ≤ 64) (hTab : TabIn w) :
    CallsIn Fence.wide n Tryd.prog 3 #[caseV v T x N, .int .i64 k, .int .i64 stop] w fun e W' => e = .returned (.bool true) ∧ Below w.heap.size w W' := by
  have h1 : 1 ≤ n := by omega
  obtain ⟨ao, cap, rfl⟩ := h.shape
  obtain ⟨w3, hw3⟩ : ∃ w3, ((w.alloc (.cells #[.slice ao L cap, .int .u8 T, .int .u64 x, .int .u8 N] 25)).alloc (.cells #[.int .i64 stop] 3)).alloc (.cells #[.bool false] 4) = w3 := ⟨_, rfl⟩
  have hM3 : More w w3 := by
    rw [← hw3]
    exact (((Below.refl _ w).alloc (Nat.le_refl _) _).alloc (by simp) _).alloc (by simp; omega) _
  have hc3 : CaseAt w3 w.heap.size (.slice ao L cap) T x N := by
    rw [← hw3]
    exact ((CaseAt.new w _ _ _ _).more (more_alloc _ _)).more (more_alloc _ _)
  have b1 : Boxed w3 (w.heap.size + 1) 3 (.int .i64 stop) := by
    have := (Boxed.new (w.alloc (.cells #[.slice ao L cap, .int .u8 T, .int .u64 x, .int .u8 N] 25)) 3 (.int .i64 stop)).alloc (.cells #[.bool false] 4)
    rw [World.size_alloc] at this
    rw [← hw3]; exact this
  have b2 : Boxed w3 (w.heap.size + 1 + 1) 4 (.bool false) := by
    have := Boxed.new ((w.alloc (.cells #[.slice ao L cap, .int .u8 T, .int .u64 x, .int .u8 N] 25)).alloc (.cells #[.int .i64 stop] 3)) 4 (.bool false)
    rw [World.size_alloc, World.size_alloc] at this
    rw [← hw3]; exact this
  have hsm := small ao L cap T x N w3 (by omega) (by omega) (by omega)
  rw [decide_eq_true (p := L ≤ 6 ∧ T ≤ 40 ∧ N ≤ 64) ⟨s1, by omega, s3⟩] at hsm
  obtain ⟨V, hV⟩ : ∃ V, rowV f L T x N = V := ⟨_, rfl⟩
  obtain ⟨nn, hnn⟩ : ∃ n, rowN L T N = n := ⟨_, rfl⟩
  have hnb : nn ≤ 15424 := by rw [← hnn]; exact rowN_le s1 (by omega) s3
  have H0 := Hid.mk (And.intro h (And.intro hf (And.intro hM3 (And.intro hc3 (And.intro b1 (And.intro b2 hTab))))))
  have hrow : ∀ w1, More w3 w1 → Calls Tryd.prog 6 #[caseV (.slice ao L cap) T x N] w1 fun e w' => ∃ b, e = .returned (.pointer (some ⟨b, 0, none⟩)) ∧ RowAt w' w1.heap.size b V nn ∧ More w1 w' := fun w1 hm => by
    rw [← hV, ← hnn]; exact law_row _ L T x N f w1 (H0.out.1.more (More.trans H0.out.2.2.1 hm)) H0.out.2.1 s1 (by omega) hx s3
  have hbits : ∀ w1, More w3 w1 → Calls Tryd.prog 9 #[caseV (.slice ao L cap) T x N] w1 fun e w' => ∃ v', e = .returned v' ∧ w'.ownsRow w1.heap.size 4 1 v' nn (bools V nn) ∧ More w1 w' := fun w1 hm => by
    rw [← hV, ← hnn]; exact law_bits _ L T x N f w1 (H0.out.1.more (More.trans H0.out.2.2.1 hm)) H0.out.2.1 s1 (by omega) hx s3
  obtain ⟨R, hR⟩ : ∃ R, rk V nn = R := ⟨_, rfl⟩
  have hRb : R ≤ 15424 := by rw [← hR]; exact Nat.le_trans (rk_le _ _) hnb
  have hp1 : ∀ (v' : Value) w1, BRd w1 v' nn V → V < 2 ^ nn → Calls Tryd.prog 8 #[v', .bool true] w1 fun e w' => ∃ v', e = .returned v' ∧ w'.ownsRow w1.heap.size 3 1 v' R (ints (pl V nn) R) ∧ More w1 w' := fun v' w1 hb hfit => by
    have := ref_places v' nn V V true w1 hb (oneV_bit hfit true) (by omega); rwa [hR] at this
  obtain ⟨c0, c1, c2, c3⟩ := hc3
  have hmax : max k 0 = (k.toNat : Int) := by omega
  obtain ⟨K, hK⟩ : ∃ K, k.toNat = K := ⟨_, rfl⟩
  rw [hK] at hmax
  have HK := Hid.mk (And.intro hK hR)
  clear h hf hM3 b1 b2 hTab hV hnn hK hR
  refine callsIn_of_wp_marks Tryd.func3 rfl trivial ?_ rfl
  simp only [Tryd.ntmps3, List.size_toArray, List.length_cons, List.length_nil, Nat.reduceAdd, Nat.reduceSub, Array.replicate_succ, Array.replicate_zero, List.push_toArray, List.append_toArray, List.nil_append, List.cons_append]
  gi_wp2_with (first
    | (refine ⟨trivial, ?_⟩; gi_at_call 4; refine (callsIn_wide.2 hsm).mono ?_; rintro e w4 ⟨rfl, hm⟩; obtain ⟨d0, d1, d2, d3⟩ := H0.out.2.2.2.1.more hm; have H4 := Hid.mk hm; clear hm hsm c0 c1 c2 c3)
    | (refine ⟨trivial, ?_⟩; gi_at_call 6; refine (callsIn_wide.2 (hrow _ H4.out)).mono ?_; rintro e w5 ⟨b, rfl, hr, hm⟩; have H5 := Hid.mk (And.intro hr hm); clear hr hm hrow d0 d1 d2 d3)
    | (refine ⟨trivial, ?_⟩; gi_at_call 7; refine (callsIn_wide.2 (sdir_new _ V nn w5 (fun w' hm => RowOr.row (hm.row H5.out.1)))).mono ?_; rintro e w6 ⟨d, rfl, hd, hm⟩; obtain ⟨d0, d1, d2, d3⟩ := H0.out.2.2.2.1.more (More.trans H4.out (More.trans H5.out.2 hm)); have H6 := Hid.mk (And.intro hd hm); clear hd hm)
    | (refine ⟨trivial, ?_⟩; gi_at_call 9; refine (callsIn_wide.2 (hbits _ (More.trans H4.out (More.trans H5.out.2 H6.out.2)))).mono ?_; rintro e w7 ⟨vb, rfl, hown, hm⟩; obtain ⟨ab, cb, rfl⟩ := shape_of hown; have H7 := Hid.mk (And.intro (brd_of_own hown) hm); clear hown hm hbits d0 d1 d2 d3)
    | (refine ⟨trivial, ?_⟩; gi_at_call 8; refine (callsIn_wide.2 (hp1 _ w7 H7.out.1 H6.out.1.fit)).mono ?_; rintro e w8 ⟨v1, rfl, hown, hm⟩; obtain ⟨a1, ca1, rfl⟩ := shape_of hown; have H8 := Hid.mk (And.intro hown hm); clear hown hm hp1)
    | (refine ⟨trivial, ?_⟩; gi_at_call 10; refine (callsIn_wide.2 (row_fit w4.heap.size b V nn 5 3 _ ((More.trans H6.out.2 (More.trans H7.out.2 (More.trans H8.out.2 (more_alloc w8 _)))).row H5.out.1) (More.trans H5.out.2 (More.trans H6.out.2 (More.trans H7.out.2 (More.trans H8.out.2 (more_alloc w8 _))))).size (by decide) (by decide) (by omega))).mono ?_; rintro e w10 ⟨rfl, _, hko⟩; have H10 := Hid.mk hko; clear hko)
    | (refine ⟨trivial, ?_⟩; gi_at_call 11; refine (from_call _ _ _ _).mono ?_; rintro e w' ⟨rfl, hw'⟩; subst w'))
  rw [eql_func_nil _ 39 _ _ _ _ _ _ Tryd.underlying39]
  gi_wp2_with (first
    | (refine ⟨trivial, ?_⟩; gi_at_call 12; refine (callsIn_wide.2 (none_sones _)).mono ?_; rintro e w' ⟨rfl, hw'⟩; subst w')
    | (refine ⟨trivial, ?_⟩; gi_at_call 13; refine (callsIn_wide.2 (none_one _ _)).mono ?_; rintro e w12 ⟨rfl, hm⟩; have H12 := Hid.mk hm; clear hm)
    | (refine ⟨trivial, ?_⟩; gi_at_call 14; refine (callsIn_wide.2 (none_zero _ _)).mono ?_; rintro e w13 ⟨rfl, hm⟩; have H13 := Hid.mk hm; clear hm))
  obtain ⟨w9, hw9⟩ : ∃ w9, w8.alloc (.cells #[.slice a1 R ca1] 32) = w9 := ⟨_, rfl⟩
  rw [hw9] at H10
  have hm9 : More w8 w9 := by rw [← hw9]; exact more_alloc _ _
  have b9 : Boxed w9 w8.heap.size 32 (.slice a1 R ca1) := by rw [← hw9]; exact Boxed.new _ _ _
  have h79 : More w7 w9 := More.trans H8.out.2 hm9
  have h69 : More w6 w9 := More.trans H7.out.2 h79
  have h59 : More w5 w9 := More.trans H6.out.2 h69
  have h49 : More w4 w9 := More.trans H5.out.2 h59
  have h39 : More w3 w9 := More.trans H4.out h49
  have hsz57 : w5.heap.size ≤ w7.heap.size := (More.trans H6.out.2 H7.out.2).size
  have hsz34 : w3.heap.size ≤ w4.heap.size := H4.out.size
  have hsz8 : w5.heap.size ≤ w8.heap.size := Nat.le_trans hsz57 H8.out.2.size
  have hst10 : Stays w5.heap.size w9 w10 := fun i hB hi => H10.out.only i hi (fun hb => by have := rowBlk_lt H5.out.1 h59 hb; omega)
  have dir10 := (H6.out.1.more h69).stays (Nat.le_refl _) hst10
  have own10 := own_stays (More.own H8.out.1 hm9) hsz57 hst10
  have b910 : Boxed w10 w8.heap.size 32 (.slice a1 R ca1) := (hst10 _ hsz8 b9.lt).trans b9
  have bs10 : Boxed w10 (w.heap.size + 1) 3 (.int .i64 stop) := (H10.out.below.block _ (by have := H0.out.2.2.2.2.1.lt; omega)).trans (boxed_more H0.out.2.2.2.2.1 h39)
  have br10 : Boxed w10 (w.heap.size + 1 + 1) 4 (.bool false) := (H10.out.below.block _ (by have := H0.out.2.2.2.2.2.1.lt; omega)).trans (boxed_more H0.out.2.2.2.2.2.1 h39)
  have hw10 : More w w10 := Below.trans (More.trans H0.out.2.2.1 h39) (H10.out.below.mono (by have := H0.out.2.2.1.size; omega))
  obtain ⟨wA, hwA⟩ : ∃ wA, w13.alloc (.cells #[.int .i64 K] 3) = wA := ⟨_, rfl⟩
  have h11 : More w10 ((w10.alloc (.cells #[.pointer (some ⟨d, 0, none⟩)] 30)).alloc (.cells #[.int .i64 k] 3)) := (more_alloc _ _).alloc (more_alloc _ _).size _
  have bd11 : Boxed ((w10.alloc (.cells #[.pointer (some ⟨d, 0, none⟩)] 30)).alloc (.cells #[.int .i64 k] 3)) w10.heap.size 30 (.pointer (some ⟨d, 0, none⟩)) := (Boxed.new _ _ _).alloc _
  have bk11 : Boxed ((w10.alloc (.cells #[.pointer (some ⟨d, 0, none⟩)] 30)).alloc (.cells #[.int .i64 k] 3)) (w10.heap.size + 1) 3 (.int .i64 k) := by
    have := Boxed.new (w10.alloc (.cells #[.pointer (some ⟨d, 0, none⟩)] 30)) 3 (.int .i64 k)
    rwa [World.size_alloc] at this
  have hA13 : More w13 wA := by rw [← hwA]; exact more_alloc _ _
  have hAs : wA.heap.size = w13.heap.size + 1 := by rw [← hwA]; simp
  have h11A := More.trans H12.out (More.trans H13.out hA13)
  have h10A := More.trans h11 h11A
  have dirA := dir10.more h10A
  have onesA := (ird_of_own own10).more h10A
  have aD := boxed_more bd11 h11A
  have aK := boxed_more bk11 h11A
  have a9 := boxed_more b910 h10A
  have a1s := boxed_more bs10 h10A
  have a2r := boxed_more br10 h10A
  have aF : Boxed wA w13.heap.size 3 (.int .i64 K) := by rw [← hwA]; exact Boxed.new _ _ _
  have hwAm : More w wA := More.trans hw10 h10A
  have hTA : TabIn wA := More.tab H0.out.2.2.2.2.2.2 hwAm
  have hseq := from1_in (n - 1) (by omega) (w10.heap.size + 1) w10.heap.size w5.heap.size d V nn k wA dirA aK aD hTA
  rw [HK.out.1, HK.out.2] at hseq
  have hBs : w.heap.size + 1 + 1 < wA.heap.size := a2r.lt
  have hW0 : More wA (wA.alloc (.cells #[.int .i64 0] 3)) := more_alloc _ _
  have n0 : Boxed (wA.alloc (.cells #[.int .i64 0] 3)) (w13.heap.size + 1) 3 (.int .i64 0) := by
    have := Boxed.new wA 3 (.int .i64 0)
    rwa [hAs] at this
  rw [hwA]
  clear hst10 dir10 own10 b910 bs10 br10 hw10 h11 bd11 bk11 hA13 h11A h10A b9 h79 h69 h59 h49 h39 H0 H4 H5 H6 H7 H8 H10 H12 H13 hw9 hw3 hm9 hwA dirA aD aK hTA hsz57 hsz34 hsz8
  have hsW0 : (wA.alloc (.cells #[.int .i64 0] 3)).heap.size = w13.heap.size + 2 := by simp [hAs]
  generalize wA.alloc (.cells #[.int .i64 0] 3) = W0 at hW0 n0 hsW0 ⊢
  refine range_own rfl h1 (gf := 24) (lb := #[.pointer (some ⟨w10.heap.size + 1, 0, none⟩), .pointer (some ⟨w10.heap.size, 0, none⟩)]) rfl trivial (enters_of Tryd.func24 (by kernel_rfl) rfl)
    hseq hW0.size hW0 (fun _ => rfl)
    (fun pre W => Boxed W (w13.heap.size + 1) 3 (.int .i64 pre.length) ∧ More wA W)
    (fun c pre _ => c = .ret ∧ ¬ Good V nn K pre)
    (fun s A A' h k => ⟨(k.block _ (by omega)).trans h.1, Below.trans h.2 (k.mono hW0.size)⟩)
    (fun _ _ _ _ h _ => h)
    ⟨n0, hW0⟩
    (fun x' => { tmps := #[caseV (.slice ao L cap) T x N, .int .i64 k, .int .i64 stop, .pointer (some ⟨w.heap.size, 0, none⟩), undef, .pointer (some ⟨w.heap.size + 1, 0, none⟩), .pointer (some ⟨w.heap.size + 1 + 1, 0, none⟩), .pointer (some ⟨b, 0, none⟩), .pointer (some ⟨d, 0, none⟩), .pointer (some ⟨w8.heap.size, 0, none⟩), .func (.func 24) #[] #[.pointer (some ⟨w10.heap.size + 1, 0, none⟩), .pointer (some ⟨w10.heap.size, 0, none⟩)], .pointer none, .pointer (some ⟨w13.heap.size, 0, none⟩), .pointer (some ⟨w13.heap.size + 1, 0, none⟩), .int .i64 x'.1, .int .i64 x'.2, undef, undef, undef, undef, .agg #[.slice ao L cap, .int .u8 T, .int .u64 x, .int .u8 N], .bool true, .bool false, .bool false, .pointer (some ⟨w.heap.size, 1, none⟩), .int .u8 T, .bool (decide (8 < (T : Int))), .bool (decide (8 < (T : Int))), undef, .agg #[.slice ao L cap, .int .u8 T, .int .u64 x, .int .u8 N], .pointer (some ⟨b, 0, none⟩), .pointer (some ⟨b, 0, none⟩), .pointer (some ⟨d, 0, none⟩), .agg #[.slice ao L cap, .int .u8 T, .int .u64 x, .int .u8 N], .slice ab nn cb, .slice a1 R ca1, .pointer (some ⟨b, 0, none⟩), .int .i64 0, .bool false, .pointer (some ⟨d, 0, none⟩), .int .i64 k, .func (.func 24) #[] #[.pointer (some ⟨w10.heap.size + 1, 0, none⟩), .pointer (some ⟨w10.heap.size, 0, none⟩)], .func (.func 24) #[] #[.pointer (some ⟨w10.heap.size + 1, 0, none⟩), .pointer (some ⟨w10.heap.size, 0, none⟩)], .bool false, .bool false, .pointer none, .int .i64 0, .bool false, .bool false, .bool false, .pointer none, .int .i64 (-1), .bool false, .bool false, .bool false, .pointer none, .int .i64 (-1), .bool false, .bool false, .int .i64 k, .int .i64 K, .func (.func 24) #[] #[.pointer (some ⟨w10.heap.size + 1, 0, none⟩), .pointer (some ⟨w10.heap.size, 0, none⟩)], .int .i64 x'.1, .int .i64 x'.2, undef, undef, undef, undef, undef, undef, undef, undef, undef, undef, undef, undef, undef, undef, undef, undef, undef, undef, undef, undef, undef, undef, undef, undef, undef, undef, undef, undef, undef, undef, undef, undef, undef, undef, undef, undef, undef, undef, undef, undef, undef, undef, undef, undef, undef, undef, undef, undef, undef, undef, undef, undef, undef, undef, undef, undef, undef, undef, undef, undef, undef, undef, undef, undef, undef, undef, undef, undef, undef, undef, undef, undef, undef, undef, undef, undef, undef, undef, undef, undef, undef, undef, undef], defers := [] }) ?assign ?body ?done ?stop
  case assign =>
    intro l x' W K' hK'
    gi_wp2
    exact hK'
  case body =>
    rintro l pre ⟨xa, xb⟩ W ⟨bn, hM⟩ hsz hlen
    have hd : 1 ≤ n - 1 - 1 := by omega
    obtain ⟨g, rfl, hg⟩ := onesA.at (by omega)
    have hgk := hg (K + pre.length) (by omega)
    have hck := (hM.cell (p := ⟨g, K + pre.length, none⟩) (World.block_lt_of_cell? wA _ hgk)).trans hgk
    clear hg hgk
    have c9 := (boxed_more a9 hM).cell
    have cF := (boxed_more aF hM).cell
    have cr := (boxed_more a2r hM).cell
    have fr := (boxed_more a2r hM).frozen
    have cn := bn.cell
    have fnn := bn.frozen
    have hKR : K + pre.length < R := by omega
    obtain ⟨P, hP⟩ : ∃ P, pl V nn (K + pre.length) = P := ⟨_, rfl⟩
    rw [hP] at hck
    have HP := Hid.mk hP
    clear hP
    by_cases ha : xa = (K : Int) + pre.length
    · subst ha
      by_cases hb : xb = P
      · subst hb
        gi_wp2
        refine ⟨(Only.refl wA.heap.size W0.heap.size W).setCell (p := ⟨w13.heap.size + 1, 0, none⟩) (by simp; omega) (by simp; omega) _, ?_, hM.setCell (p := ⟨w13.heap.size + 1, 0, none⟩) (by simp; omega) _⟩
        have := bn.set (.int .i64 ((pre.length : Int) + 1))
        simpa using this
      · have hb' : (xb != (P : Int)) = true := by simpa using hb
        gi_wp2
        exact ⟨(Only.refl 0 W0.heap.size W).setCell (p := ⟨w.heap.size + 1 + 1, 0, none⟩) (Nat.zero_le _) (by simp; omega) _, rfl, fun hgd => hb ((good_snoc hgd).2.trans (by rw [HP.out]))⟩
    · have ha' : (xa != (K : Int) + pre.length) = true := by simpa using ha
      gi_wp2
      exact ⟨(Only.refl 0 W0.heap.size W).setCell (p := ⟨w.heap.size + 1 + 1, 0, none⟩) (Nat.zero_le _) (by simp; omega) _, rfl, fun hgd => ha ((good_snoc hgd).1.trans (by simp))⟩
  case done =>
    rintro D ys W hD rfl ⟨bn, hM⟩ hKD
    rw [goL_len] at bn
    gi_wp2
    obtain ⟨M, hMe⟩ : ∃ M, W.heap.size = M := ⟨_, rfl⟩
    have hDM : D < M := by rw [← hMe]; exact (Array.getElem?_eq_some_iff.1 hKD).1
    have hBM : w13.heap.size + 1 < M := by rw [← hMe]; exact bn.lt
    have bm : Boxed (W.alloc (.cells #[.int .i64 0] 3)) M 3 (.int .i64 0) := by rw [← hMe]; exact Boxed.new W _ _
    replace bn := bn.alloc (.cells #[.int .i64 0] 3)
    replace hKD : (W.alloc (.cells #[.int .i64 0] 3)).heap[D]? = some (.deferred (some [])) := (Below.heap_alloc W _ D (by omega)).trans hKD
    replace hM : More wA (W.alloc (.cells #[.int .i64 0] 3)) := hM.alloc hM.size _
    rw [hMe]
    have hsz : (W.alloc (.cells #[.int .i64 0] 3)).heap.size = M + 1 := by simp [hMe]
    generalize W.alloc (.cells #[.int .i64 0] 3) = W2 at bn hKD hM bm hsz ⊢
    clear hMe
    obtain ⟨C, hC⟩ : ∃ C, R - K = C := ⟨_, rfl⟩
    have hseq2 := hseq
    rw [hC] at bn hseq2
    refine range_own rfl h1 (gf := 24) (lb := #[.pointer (some ⟨w10.heap.size + 1, 0, none⟩), .pointer (some ⟨w10.heap.size, 0, none⟩)]) rfl trivial (enters_of Tryd.func24 (by kernel_rfl) rfl)
      hseq2 hM.size hM (fun _ => rfl)
      (fun pre V' => (Boxed V' (w13.heap.size + 1) 3 (.int .i64 C) ∧ Boxed V' M 3 (.int .i64 pre.length)) ∧ (V'.heap[D]? = some (.deferred (some [])) ∧ More wA V') ∧ ¬ (0 < stop ∧ stop ≤ pre.length))
      (fun c pre V' => (c = .ret ∧ ¬ Good V nn K pre) ∨ ((c = .exit 2 ∧ 0 < stop ∧ (pre.length : Int) = stop) ∧ (Boxed V' (w13.heap.size + 1) 3 (.int .i64 C) ∧ Boxed V' M 3 (.int .i64 pre.length)) ∧ (V'.heap[D]? = some (.deferred (some [])) ∧ More wA V')))
      (fun s A A' h k => ⟨⟨(k.block _ (by omega)).trans h.1.1, (k.block _ (by omega)).trans h.1.2⟩, ⟨(k.block _ (by omega)).trans h.2.1.1, Below.trans h.2.1.2 (k.mono hM.size)⟩, h.2.2⟩)
      (fun c s A A' h k => h.imp id fun h => ⟨h.1, ⟨(k.block _ (by omega)).trans h.2.1.1, (k.block _ (by omega)).trans h.2.1.2⟩, ⟨(k.block _ (by omega)).trans h.2.2.1, Below.trans h.2.2.2 (k.mono hM.size)⟩⟩)
      ⟨⟨bn, bm⟩, ⟨hKD, hM⟩, by simp⟩
      (fun x' => { tmps := #[caseV (.slice ao L cap) T x N, .int .i64 k, .int .i64 stop, .pointer (some ⟨w.heap.size, 0, none⟩), undef, .pointer (some ⟨w.heap.size + 1, 0, none⟩), .pointer (some ⟨w.heap.size + 1 + 1, 0, none⟩), .pointer (some ⟨b, 0, none⟩), .pointer (some ⟨d, 0, none⟩), .pointer (some ⟨w8.heap.size, 0, none⟩), .func (.func 24) #[] #[.pointer (some ⟨w10.heap.size + 1, 0, none⟩), .pointer (some ⟨w10.heap.size, 0, none⟩)], .pointer none, .pointer (some ⟨w13.heap.size, 0, none⟩), .pointer (some ⟨w13.heap.size + 1, 0, none⟩), undef, undef, .pointer (some ⟨M, 0, none⟩), .int .i64 x'.1, .int .i64 x'.2, undef, .agg #[.slice ao L cap, .int .u8 T, .int .u64 x, .int .u8 N], .bool true, .bool false, .bool false, .pointer (some ⟨w.heap.size, 1, none⟩), .int .u8 T, .bool (decide (8 < (T : Int))), .bool (decide (8 < (T : Int))), undef, .agg #[.slice ao L cap, .int .u8 T, .int .u64 x, .int .u8 N], .pointer (some ⟨b, 0, none⟩), .pointer (some ⟨b, 0, none⟩), .pointer (some ⟨d, 0, none⟩), .agg #[.slice ao L cap, .int .u8 T, .int .u64 x, .int .u8 N], .slice ab nn cb, .slice a1 R ca1, .pointer (some ⟨b, 0, none⟩), .int .i64 0, .bool false, .pointer (some ⟨d, 0, none⟩), .int .i64 k, .func (.func 24) #[] #[.pointer (some ⟨w10.heap.size + 1, 0, none⟩), .pointer (some ⟨w10.heap.size, 0, none⟩)], .func (.func 24) #[] #[.pointer (some ⟨w10.heap.size + 1, 0, none⟩), .pointer (some ⟨w10.heap.size, 0, none⟩)], .bool false, .bool false, .pointer none, .int .i64 0, .bool false, .bool false, .bool false, .pointer none, .int .i64 (-1), .bool false, .bool false, .bool false, .pointer none, .int .i64 (-1), .bool false, .bool false, .int .i64 k, .int .i64 K, .func (.func 24) #[] #[.pointer (some ⟨w10.heap.size + 1, 0, none⟩), .pointer (some ⟨w10.heap.size, 0, none⟩)], undef, undef, undef, undef, undef, undef, undef, undef, undef, undef, undef, undef, undef, undef, undef, undef, undef, undef, undef, undef, undef, undef, undef, undef, undef, undef, undef, undef, undef, undef, undef, undef, undef, .func (.func 24) #[] #[.pointer (some ⟨w10.heap.size + 1, 0, none⟩), .pointer (some ⟨w10.heap.size, 0, none⟩)], .int .i64 x'.1, .int .i64 x'.2, undef, undef, undef, undef, undef, undef, undef, undef, undef, undef, undef, undef, undef, undef, undef, undef, undef, undef, undef, undef, undef, undef, undef, undef, undef, undef, undef, undef, undef, undef, undef, undef, undef, undef, undef, undef, undef, undef, undef, undef, undef, undef, undef, undef, undef, undef, undef, undef, undef], defers := [] }) ?assign2 ?body2 ?done2 ?stop2
    case assign2 =>
      intro l x' W K' hK'
      gi_wp2
      exact hK'
    case body2 =>
      rintro l pre ⟨xa, xb⟩ V' ⟨⟨bn, bm⟩, ⟨hKD, hM⟩, hns⟩ hszv hlen
      have hd : 1 ≤ n - 1 - 1 := by omega
      obtain ⟨g, rfl, hg⟩ := onesA.at (by omega)
      have hgk := hg (K + pre.length) (by omega)
      have hck := (hM.cell (p := ⟨g, K + pre.length, none⟩) (World.block_lt_of_cell? wA _ hgk)).trans hgk
      clear hg hgk
      have c9 := (boxed_more a9 hM).cell
      have cF := (boxed_more aF hM).cell
      have cr := (boxed_more a2r hM).cell
      have fr := (boxed_more a2r hM).frozen
      have cs := (boxed_more a1s hM).cell
      have cn := bn.cell
      have cm := bm.cell
      have fm := bm.frozen
      have hKR : K + pre.length < R := by omega
      obtain ⟨P, hP⟩ : ∃ P, pl V nn (K + pre.length) = P := ⟨_, rfl⟩
      rw [hP] at hck
      have HP := Hid.mk hP
      clear hP
      by_cases ha : xa = (K : Int) + pre.length
      · subst ha
        by_cases hb : xb = P
        · subst hb
          have hM' : ∀ v, More wA (V'.setCell ⟨M, 0, none⟩ v) := fun v => hM.setCell (p := ⟨M, 0, none⟩) (by simp; omega) v
          have hK' : ∀ v, (V'.setCell ⟨M, 0, none⟩ v).heap[D]? = some (.deferred (some [])) := fun v => (KeepsOthers.setCell V' ⟨M, 0, none⟩ v).same D _ hKD rfl
          have bn' : ∀ v, Boxed (V'.setCell ⟨M, 0, none⟩ v) (w13.heap.size + 1) 3 (.int .i64 C) := fun v => bn.other (by omega) _
          have hm' := bm.set (.int .i64 ((pre.length : Int) + 1))
          have cm' := hm'.cell
          have cs' := ((boxed_more a1s hM).other (show w.heap.size + 1 ≠ M by omega) (.int .i64 ((pre.length : Int) + 1))).cell
          have HM' := Hid.mk (And.intro hM' (And.intro hK' (And.intro bn' hm')))
          clear hM' hK' bn' hm'
          by_cases hst : (pre.length : Int) + 1 = stop
          · subst hst
            gi_wp2
            refine ⟨(Only.refl 0 W2.heap.size V').setCell (p := ⟨M, 0, none⟩) (Nat.zero_le _) (by simp; omega) _, .inr ⟨⟨rfl, by omega, by simp⟩, ⟨HM'.out.2.2.1 _, by simpa using HM'.out.2.2.2⟩, HM'.out.2.1 _, HM'.out.1 _⟩⟩
          · have ht : ((pre.length : Int) + 1 == stop) = false := by simpa using hst
            gi_wp2
            refine ⟨(Only.refl wA.heap.size W2.heap.size V').setCell (p := ⟨M, 0, none⟩) (by simp; omega) (by simp; omega) _, ⟨HM'.out.2.2.1 _, by simpa using HM'.out.2.2.2⟩, ⟨HM'.out.2.1 _, HM'.out.1 _⟩, ?_⟩
            rw [List.length_append, List.length_singleton]
            omega
        · have hb' : (xb != (P : Int)) = true := by simpa using hb
          gi_wp2
          exact ⟨(Only.refl 0 W2.heap.size V').setCell (p := ⟨w.heap.size + 1 + 1, 0, none⟩) (Nat.zero_le _) (by simp; omega) _, .inl ⟨rfl, fun hgd => hb ((good_snoc hgd).2.trans (by rw [HP.out]))⟩⟩
      · have ha' : (xa != (K : Int) + pre.length) = true := by simpa using ha
        gi_wp2
        exact ⟨(Only.refl 0 W2.heap.size V').setCell (p := ⟨w.heap.size + 1 + 1, 0, none⟩) (Nat.zero_le _) (by simp; omega) _, .inl ⟨rfl, fun hgd => ha ((good_snoc hgd).1.trans (by simp))⟩⟩
    case done2 =>
      rintro D2 ys V' hD2 rfl ⟨⟨bn, bm⟩, ⟨hKD, hM⟩, hns⟩ hK2
      rw [goL_len] at bm hns
      have c9 := (boxed_more a9 hM).cell
      have cF := (boxed_more aF hM).cell
      have cs := (boxed_more a1s hM).cell
      have br := boxed_more a2r hM
      have cn := bn.cell
      have cm := bm.cell
      have hDA : w.heap.size ≤ D := by have := hwAm.size; omega
      have hD2A : w.heap.size ≤ D2 := by have := hwAm.size; omega
      have hV := More.trans hwAm hM
      by_cases hKR : K < R
      · have hCe : (R : Int) - K = C := by omega
        have hC0 : Hid (0 < C) := Hid.mk (by omega)
        clear hC
        gi_wp2_with (refine ⟨trivial, ?_⟩; gi_at_call 5; refine (callsIn_wide.2 (live_true _)).mono ?_; rintro e w' ⟨rfl, hm⟩; have cr := (boxed_more br hm).cell; have fr := (boxed_more br hm).frozen)
        exact law_end n w _ D D2 (by omega) hDA hD2A (boxed_more br hm) (More.trans hV hm) ((hm.block D (Array.getElem?_eq_some_iff.1 hKD).1).trans hKD) ((hm.block D2 (Array.getElem?_eq_some_iff.1 hK2).1).trans hK2) rfl
      · obtain rfl : C = 0 := by omega
        gi_wp2_with (refine ⟨trivial, ?_⟩; gi_at_call 5; refine (callsIn_wide.2 (live_true _)).mono ?_; rintro e w' ⟨rfl, hm⟩; have cr := (boxed_more br hm).cell; have fr := (boxed_more br hm).frozen)
        exact law_end n w _ D D2 (by omega) hDA hD2A (boxed_more br hm) (More.trans hV hm) ((hm.block D (Array.getElem?_eq_some_iff.1 hKD).1).trans hKD) ((hm.block D2 (Array.getElem?_eq_some_iff.1 hK2).1).trans hK2) rfl
    case stop2 =>
      rintro D2 c pre V' hD2 ⟨cc, hcc, rfl⟩ hx2 hK2
      rcases hx2 with ⟨_, hng⟩ | ⟨⟨rfl, hst, hlen⟩, ⟨bn, bm⟩, hKD, hM⟩
      · exact absurd (good_all V nn K cc) hng
      · rw [goL_len] at hlen bm
        rw [hlen] at bm
        have c9 := (boxed_more a9 hM).cell
        have cF := (boxed_more aF hM).cell
        have cs := (boxed_more a1s hM).cell
        have br := boxed_more a2r hM
        have cn := bn.cell
        have cm := bm.cell
        have hDA : w.heap.size ≤ D := by have := hwAm.size; omega
        have hD2A : w.heap.size ≤ D2 := by have := hwAm.size; omega
        have hV := More.trans hwAm hM
        have hKR : K < R := by omega
        have hCe : (R : Int) - K = C := by omega
        by_cases hse : stop = (C : Int)
        · have hbe : (stop == (C : Int)) = true := by simpa using hse
          clear hlen hse hC
          gi_wp2_with (refine ⟨trivial, ?_⟩; gi_at_call 5; refine (callsIn_wide.2 (live_true _)).mono ?_; rintro e w' ⟨rfl, hm⟩; have cr := (boxed_more br hm).cell; have fr := (boxed_more br hm).frozen)
          exact law_end n w _ D D2 (by omega) hDA hD2A (boxed_more br hm) (More.trans hV hm) ((hm.block D (Array.getElem?_eq_some_iff.1 hKD).1).trans hKD) ((hm.block D2 (Array.getElem?_eq_some_iff.1 hK2).1).trans hK2) rfl
        · have hbe : (stop == (C : Int)) = false := by simpa using hse
          clear hlen hse hC
          gi_wp2_with (refine ⟨trivial, ?_⟩; gi_at_call 5; refine (callsIn_wide.2 (live_true _)).mono ?_; rintro e w' ⟨rfl, hm⟩; have cr := (boxed_more br hm).cell; have fr := (boxed_more br hm).frozen)
          exact law_end n w _ D D2 (by omega) hDA hD2A (boxed_more br hm) (More.trans hV hm) ((hm.block D (Array.getElem?_eq_some_iff.1 hKD).1).trans hKD) ((hm.block D2 (Array.getElem?_eq_some_iff.1 hK2).1).trans hK2) rfl
  case stop =>
    rintro D c pre W hD ⟨k', _, rfl⟩ ⟨_, hng⟩ hK
    exact absurd (good_all V nn K k') hng

end Go.Proofs.YtmhbejgmcphebaaDoor
