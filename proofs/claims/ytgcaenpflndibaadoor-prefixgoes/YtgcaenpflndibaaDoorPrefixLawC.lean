/-
  PrefixGoes walked: the going over that may be left, and the count behind it.
-/
import Derived.Test.YtgcaenpflndibaaDoorPrefixAll
import Derived.Test.YtgcaenpflndibaaDoorPrefixDoc
namespace Go.Proofs.YtgcaenpflndibaaDoor
open Go.RowKit Go.Shelf
attribute [local go_sem] Oper.semAt_some

theorem eql_func_nil {P : Program} (w : World) (t : TypeId) (ps rs : Array TypeId) (v : Bool) (fn : Fn) (xs ys : Array Value) (h : P.underlying t = some (.func ps rs v)) :
    (binOp .eql t (.func fn xs ys) .nilFunc).run P w = .ok (.bool false) w := by
  have e : ∀ d, (Op.equalIn (d + 1) t (.func fn xs ys) .nilFunc).run P w = .ok false w := fun d => by simp [Op.equalIn, run_underlying h]
  have e := e 9999
  simp only [binOp]
  simp [Op.equal, Op.maxDepth, e]

theorem boxes3 (w : World) (ao : Option Addr) (K cap : Nat) (stop : Int) (w3 : World) (hw3 : ((w.alloc (.cells #[.slice ao K cap] 22)).alloc (.cells #[.int .i64 stop] 3)).alloc (.cells #[.bool false] 4) = w3) :
    More w w3 ∧ Boxed w3 w.heap.size 22 (.slice ao K cap) ∧ Boxed w3 (w.heap.size + 1) 3 (.int .i64 stop) ∧ Boxed w3 (w.heap.size + 1 + 1) 4 (.bool false) := by
  refine ⟨?_, ?_, ?_, ?_⟩
  · rw [← hw3]
    exact (((Below.refl _ w).alloc (Nat.le_refl _) _).alloc (by simp) _).alloc (by simp; omega) _
  · rw [← hw3]; exact ((Boxed.new w 22 (.slice ao K cap)).alloc _).alloc _
  · have := (Boxed.new (w.alloc (.cells #[.slice ao K cap] 22)) 3 (.int .i64 stop)).alloc (.cells #[.bool false] 4)
    rw [World.size_alloc] at this
    rw [← hw3]; exact this
  · have := Boxed.new ((w.alloc (.cells #[.slice ao K cap] 22)).alloc (.cells #[.int .i64 stop] 3)) 4 (.bool false)
    rw [World.size_alloc, World.size_alloc] at this
    rw [← hw3]; exact this

/-- The way out: true is stored; the loop's block is shut. -/
theorem law_end (n : Nat) (w V : World) (B D : Nat) (hB : w.heap.size + 1 + 1 < B) (hD : B ≤ D) {tmps : Array Value} {a1 : Array Value}
    (br : Boxed V (w.heap.size + 1 + 1) 4 (.bool false)) (hV : Below w.heap.size w V) (hK : V.heap[D]? = some (.deferred (some []))) (h6 : tmps[4]?.getD undef = .pointer (some ⟨w.heap.size + 1 + 1, 0, none⟩)) (ha : a1 = #[]) :
    LeavesInM Fence.wide n Tryd.prog Tryd.f3 tmps (fun e W' => e = .returned (.bool true) ∧ Below w.heap.size w W') [{ target := .collected D, args := a1 }] .returning (V.setCell ⟨w.heap.size + 1 + 1, 0, none⟩ (.bool true)) := by
  subst ha
  have br' := br.set (.bool true)
  have hV' : Below w.heap.size w (V.setCell ⟨w.heap.size + 1 + 1, 0, none⟩ (.bool true)) := hV.setCell (p := ⟨w.heap.size + 1 + 1, 0, none⟩) (by simp; omega) _
  have hK' := (KeepsOthers.setCell V ⟨w.heap.size + 1 + 1, 0, none⟩ (.bool true)).same D _ hK rfl
  generalize V.setCell ⟨w.heap.size + 1 + 1, 0, none⟩ (.bool true) = Z at *
  refine leaves_marks (B := B) (.cons hD hK' (fun _ h => by cases h) .nil) fun w' hw' => ?_
  have br3 : Boxed w' (w.heap.size + 1 + 1) 4 (.bool true) := (hw'.block _ hB).trans br'
  have hc := br3.cell
  refine ⟨.bool true, ?_, rfl, Below.trans hV' (hw'.mono (by omega))⟩
  simp [results, Tryd.f3, go_sem, h6, hc]

set_option maxRecDepth 1000000 in
set_option maxHeartbeats 4000000 in
theorem goes (n : Nat) (hn : 20 ≤ n) (ao : Option Addr) (K cap : Nat) (f : Nat → Nat) (stop : Int) (w : World) (h : ZRd w (.slice ao K cap) K (fun j => (f j : Int))) (hb : K ≤ 80) (hf : sm f K ≤ 1099511627776) (hTab : TabIn w) :
    CallsIn Fence.wide n Tryd.prog 3 #[.slice ao K cap, .int .i64 stop] w fun e W' => e = .returned (.bool true) ∧ Below w.heap.size w W' := by
  have h1 : 1 ≤ n := by omega
  obtain ⟨w3, hw3⟩ : ∃ w3, ((w.alloc (.cells #[.slice ao K cap] 22)).alloc (.cells #[.int .i64 stop] 3)).alloc (.cells #[.bool false] 4) = w3 := ⟨_, rfl⟩
  obtain ⟨hM3, b0, b1, b2⟩ := boxes3 w ao K cap stop w3 hw3
  have hw := refx_good _ K f w3 (h.more hM3) (by omega) hf
  have hnew := fun w1 (hm : More w w1) => px_new (.slice ao K cap) K f w1 (h.more hm) (by omega) hf
  have cl := b0.cell
  have rt : ∀ (i : Int) (w1 : World), More w w1 → Calls Tryd.prog 8 #[.slice ao K cap, .int .i64 i] w1 fun e w' => e = .returned (.int .i64 (atZ f K i)) ∧ w' = w1 := fun i w1 hm => ref_at _ K f i w1 (h.more hm)
  have H0 := Hid.mk (And.intro hM3 (And.intro b0 (And.intro b1 (And.intro b2 hTab))))
  clear h hf hM3 b0 b1 b2 hTab
  refine callsIn_of_wp_marks Tryd.func3 rfl trivial ?_ rfl
  simp only [Tryd.ntmps3, List.size_toArray, List.length_cons, List.length_nil, Nat.reduceAdd, Nat.reduceSub, Array.replicate_succ, Array.replicate_zero, List.push_toArray, List.append_toArray, List.nil_append, List.cons_append]
  gi_wp2_with (first
    | (refine ⟨trivial, ?_⟩; gi_at_call 5; refine (callsIn_wide.2 hw).mono ?_; rintro e wS ⟨aS, cS, rfl, _, hm⟩; have HS := Hid.mk hm; have clS := (boxed_more H0.out.2.1 hm).cell; clear hw hm)
    | (refine ⟨trivial, ?_⟩; gi_at_call 6; refine (callsIn_wide.2 (hnew _ (More.trans H0.out.1 HS.out))).mono ?_; rintro e w4 ⟨s, rfl, hs, hm⟩; have H4 := Hid.mk (And.intro hs (More.trans HS.out hm)); clear hs hm hnew)
    | (refine ⟨trivial, ?_⟩; gi_at_call 7; refine (pall_call _ _ _).mono ?_; rintro e w' ⟨rfl, hw'⟩; subst w'))
  rw [eql_func_nil _ 31 _ _ _ _ _ _ Tryd.underlying31]
  gi_wp2
  obtain ⟨wB, hwB⟩ : ∃ wB, w4.alloc (.cells #[.pointer (some ⟨s, 0, none⟩)] 26) = wB := ⟨_, rfl⟩
  have h4B : More w4 wB := by rw [← hwB]; exact more_alloc _ _
  have hsB : wB.heap.size = w4.heap.size + 1 := by rw [← hwB]; simp
  have bS : Boxed wB w4.heap.size 26 (.pointer (some ⟨s, 0, none⟩)) := by rw [← hwB]; exact Boxed.new _ _ _
  have h3B := More.trans H4.out.2 h4B
  have hwBm := More.trans H0.out.1 h3B
  have hseq := pall_in (n - 1) (by omega) w4.heap.size _ s f K wB (H4.out.1.more h4B) (More.tab H0.out.2.2.2.2 hwBm)
  have a0 := boxed_more H0.out.2.1 h3B
  have a1 := boxed_more H0.out.2.2.1 h3B
  have a2 := boxed_more H0.out.2.2.2.1 h3B
  have hBs : w.heap.size + 1 + 1 < wB.heap.size := a2.lt
  have hW0 : More wB (wB.alloc (.cells #[.int .i64 0] 3)) := more_alloc _ _
  have n0 : Boxed (wB.alloc (.cells #[.int .i64 0] 3)) (w4.heap.size + 1) 3 (.int .i64 0) := by
    have := Boxed.new wB 3 (.int .i64 0)
    rwa [hsB] at this
  rw [hwB]
  have hsW0 : (wB.alloc (.cells #[.int .i64 0] 3)).heap.size = w4.heap.size + 2 := by simp [hsB]
  generalize wB.alloc (.cells #[.int .i64 0] 3) = W0 at hW0 n0 hsW0 ⊢
  clear H0 H4 HS hwB hw3 cl clS h4B h3B
  refine range_own rfl h1 (gf := 14) (lb := #[.pointer (some ⟨w4.heap.size, 0, none⟩)]) rfl trivial (enters_of Tryd.func14 (by kernel_rfl) rfl)
    hseq hW0.size hW0 (fun _ => rfl)
    (fun pre V' => Boxed V' (w4.heap.size + 1) 3 (.int .i64 pre.length) ∧ More wB V' ∧ ¬ (0 < stop ∧ stop ≤ pre.length))
    (fun c pre V' => (c = .exit 0 ∧ 0 < stop ∧ (pre.length : Int) = stop) ∧ Boxed V' (w4.heap.size + 1) 3 (.int .i64 pre.length) ∧ More wB V')
    (fun s A A' h k => ⟨(k.block _ (by omega)).trans h.1, Below.trans h.2.1 (k.mono hW0.size), h.2.2⟩)
    (fun c s A A' h k => ⟨h.1, (k.block _ (by omega)).trans h.2.1, Below.trans h.2.2 (k.mono hW0.size)⟩)
    (fun _ _ h => boxed_more bS h.2.1) ⟨n0, hW0, by simp⟩
    (fun x => { tmps := #[.slice ao K cap, .int .i64 stop, .pointer (some ⟨w.heap.size, 0, none⟩), .pointer (some ⟨w.heap.size + 1, 0, none⟩), .pointer (some ⟨w.heap.size + 1 + 1, 0, none⟩), .slice aS (K + 1) cS, .bool true, .pointer (some ⟨s, 0, none⟩), .int .i64 0, .func (.func 14) #[] #[.pointer (some ⟨w4.heap.size, 0, none⟩)], .pointer (some ⟨w4.heap.size + 1, 0, none⟩), .int .i64 x.1, .int .i64 x.2, .slice ao K cap, .int .i64 K, .bool (decide (80 < (K : Int))), undef, .tuple #[.slice aS (K + 1) cS, .bool true], .slice ao K cap, .tuple #[.slice aS (K + 1) cS, .bool true], .slice aS (K + 1) cS, .bool true, .bool true, .bool false, undef, .tuple #[.pointer (some ⟨s, 0, none⟩), .int .i64 0], .slice ao K cap, .tuple #[.pointer (some ⟨s, 0, none⟩), .int .i64 0], .pointer (some ⟨s, 0, none⟩), .int .i64 0, .pointer (some ⟨s, 0, none⟩), .func (.func 14) #[] #[.pointer (some ⟨w4.heap.size, 0, none⟩)], .func (.func 14) #[] #[.pointer (some ⟨w4.heap.size, 0, none⟩)], .bool false, .func (.func 14) #[] #[.pointer (some ⟨w4.heap.size, 0, none⟩)], .int .i64 x.1, .int .i64 x.2, undef, undef, undef, undef, undef, undef, undef, undef, undef, undef, undef, undef, undef, undef, undef, undef, undef, undef, undef, undef, undef, undef, undef, undef, undef, undef, undef, undef, undef, undef, undef, undef, undef], defers := [] }) ?assign ?body ?done ?stop
  case assign =>
    intro l x W K' hK'
    gi_wp2
    exact hK'
  case body =>
    rintro l pre ⟨xa, xb⟩ V' ⟨c, hc, hSp⟩ ⟨bn, hM, hns⟩ hsz hlen
    obtain ⟨rfl, rfl, rfl⟩ := next_of hSp
    clear hSp
    have hd : 1 ≤ n - 1 - 1 := by omega
    have c0 := (boxed_more a0 hM).cell
    have cs := (boxed_more a1 hM).cell
    have cn := bn.cell
    have fnn := bn.frozen
    have hat := rt (pre.length : Int) V' (More.trans hwBm hM)
    rw [atZ_in f K pre.length hlen] at hat
    generalize f pre.length = P at *
    have hM' : ∀ v, More wB (V'.setCell ⟨w4.heap.size + 1, 0, none⟩ v) := fun v => hM.setCell (p := ⟨w4.heap.size + 1, 0, none⟩) (by simp; omega) v
    have hm' := bn.set (.int .i64 ((pre.length : Int) + 1))
    have cm' := hm'.cell
    have cs' := ((boxed_more a1 hM).other (show w.heap.size + 1 ≠ w4.heap.size + 1 by omega) (.int .i64 ((pre.length : Int) + 1))).cell
    have HM' := Hid.mk (And.intro hM' hm')
    clear hM' hm'
    by_cases hst : (pre.length : Int) + 1 = stop
    · subst hst
      gi_wp2_with (refine ⟨trivial, ?_⟩; gi_at_call 8; refine (CallsIn.inRound l (callsIn_wide.2 hat)).mono ?_; rintro e w' ⟨rfl, hw'⟩; subst w')
      exact ⟨(Only.refl 0 W0.heap.size V').setCell (p := ⟨w4.heap.size + 1, 0, none⟩) (Nat.zero_le _) (by simp; omega) _, ⟨rfl, by omega, by simp⟩, by simpa using HM'.out.2, HM'.out.1 _⟩
    · have ht : ((pre.length : Int) + 1 == stop) = false := by simpa using hst
      gi_wp2_with (refine ⟨trivial, ?_⟩; gi_at_call 8; refine (CallsIn.inRound l (callsIn_wide.2 hat)).mono ?_; rintro e w' ⟨rfl, hw'⟩; subst w')
      refine ⟨(Only.refl wB.heap.size W0.heap.size V').setCell (p := ⟨w4.heap.size + 1, 0, none⟩) (by simp; omega) (by simp; omega) _, by simpa using HM'.out.2, HM'.out.1 _, ?_⟩
      rw [List.length_append, List.length_singleton]
      omega
  case done =>
    rintro D ys V' hD rfl ⟨bn, hM, hns⟩ hKD
    rw [allZ_len] at bn hns
    have c0 := (boxed_more a0 hM).cell
    have cs := (boxed_more a1 hM).cell
    have br := boxed_more a2 hM
    have cn := bn.cell
    have hV := More.trans hwBm hM
    gi_wp2_with (refine ⟨trivial, ?_⟩; gi_at_call 4; refine (callsIn_wide.2 (px_live _)).mono ?_; rintro e w' ⟨rfl, hm⟩; have cr := (boxed_more br hm).cell; have fr := (boxed_more br hm).frozen)
    exact law_end n w _ wB.heap.size D hBs (by have := hW0.size; omega) (boxed_more br hm) (More.trans hV hm) ((hm.block D (Array.getElem?_eq_some_iff.1 hKD).1).trans hKD) rfl rfl
  case stop =>
    rintro D c pre V' hD ⟨cc, hcc, rfl⟩ ⟨⟨rfl, hst, hlen⟩, bn, hM⟩ hKD
    rw [allZ_len] at hlen bn
    rw [hlen] at bn
    have c0 := (boxed_more a0 hM).cell
    have cs := (boxed_more a1 hM).cell
    have br := boxed_more a2 hM
    have cn := bn.cell
    have hV := More.trans hwBm hM
    have hle : stop ≤ (K : Int) := by omega
    by_cases hse : stop = (K : Int)
    · have hbe : (stop == (K : Int)) = true := by simpa using hse
      clear hlen hse
      gi_wp2_with (refine ⟨trivial, ?_⟩; gi_at_call 4; refine (callsIn_wide.2 (px_live _)).mono ?_; rintro e w' ⟨rfl, hm⟩; have cr := (boxed_more br hm).cell; have fr := (boxed_more br hm).frozen)
      exact law_end n w _ wB.heap.size D hBs (by have := hW0.size; omega) (boxed_more br hm) (More.trans hV hm) ((hm.block D (Array.getElem?_eq_some_iff.1 hKD).1).trans hKD) rfl rfl
    · have hbe : (stop == (K : Int)) = false := by simpa using hse
      clear hlen hse
      gi_wp2_with (refine ⟨trivial, ?_⟩; gi_at_call 4; refine (callsIn_wide.2 (px_live _)).mono ?_; rintro e w' ⟨rfl, hm⟩; have cr := (boxed_more br hm).cell; have fr := (boxed_more br hm).frozen)
      exact law_end n w _ wB.heap.size D hBs (by have := hW0.size; omega) (boxed_more br hm) (More.trans hV hm) ((hm.block D (Array.getElem?_eq_some_iff.1 hKD).1).trans hKD) rfl rfl

set_option maxHeartbeats 1600000 in
set_option maxRecDepth 1000000 in
theorem goes_big (ao : Option Addr) (K cap : Nat) (stop : Int) (w : World) (hK : K ≤ 9223372036854775807) (hb : 80 < K) :
    Calls Tryd.prog 3 #[.slice ao K cap, .int .i64 stop] w fun e W' => e = .returned (.bool true) ∧ Below w.heap.size w W' := by
  obtain ⟨w3, hw3⟩ : ∃ w3, ((w.alloc (.cells #[.slice ao K cap] 22)).alloc (.cells #[.int .i64 stop] 3)).alloc (.cells #[.bool false] 4) = w3 := ⟨_, rfl⟩
  obtain ⟨hM3, b0, _, b2⟩ := boxes3 w ao K cap stop w3 hw3
  have cl := b0.cell
  have H0 := Hid.mk (And.intro hM3 b2)
  clear hM3 b2 b0
  go_enter Tryd.func3, Tryd.ntmps3
  go_wp2_with (go_at_call 4; refine (px_live _).mono ?_; rintro e w5 ⟨rfl, hm⟩; have br := boxed_more H0.out.2 hm; have cr := br.cell; have fr := br.frozen; have hc := (br.set (.bool true)).cell; have H5 := Hid.mk hm; clear hm)
  refine bodyPost_ret (v := .bool true) ?_ rfl ⟨rfl, ?_⟩
  · simp [results, Tryd.f3, go_sem, hc]
  · exact (More.trans H0.out.1 H5.out).setCell (p := ⟨w.heap.size + 1 + 1, 0, none⟩) (by simp; omega) _

set_option maxHeartbeats 1600000 in
set_option maxRecDepth 1000000 in
theorem goes_bad (ao : Option Addr) (K cap : Nat) (g : Nat → Int) (stop : Int) (w : World) (h : ZRd w (.slice ao K cap) K g) (hb : K ≤ 80) (h0 : ¬ Fits g K) :
    Calls Tryd.prog 3 #[.slice ao K cap, .int .i64 stop] w fun e W' => e = .returned (.bool true) ∧ Below w.heap.size w W' := by
  obtain ⟨w3, hw3⟩ : ∃ w3, ((w.alloc (.cells #[.slice ao K cap] 22)).alloc (.cells #[.int .i64 stop] 3)).alloc (.cells #[.bool false] 4) = w3 := ⟨_, rfl⟩
  obtain ⟨hM3, b0, _, b2⟩ := boxes3 w ao K cap stop w3 hw3
  have hw := refx_bad _ K g w3 (h.more hM3) (by omega) h0
  have cl := b0.cell
  have H0 := Hid.mk (And.intro hM3 b2)
  clear h h0 hM3 b2 b0
  go_enter Tryd.func3, Tryd.ntmps3
  go_wp2_with (first
    | (go_at_call 5; refine hw.mono ?_; rintro e w4 ⟨rfl, hm⟩; have H4 := Hid.mk hm; clear hw hm)
    | (go_at_call 4; refine (px_live _).mono ?_; rintro e w5 ⟨rfl, hm⟩; have br := boxed_more H0.out.2 (More.trans H4.out hm); have cr := br.cell; have fr := br.frozen; have hc := (br.set (.bool true)).cell; have H5 := Hid.mk (More.trans H4.out hm); clear hm))
  refine bodyPost_ret (v := .bool true) ?_ rfl ⟨rfl, ?_⟩
  · simp [results, Tryd.f3, go_sem, hc]
  · exact (More.trans H0.out.1 H5.out).setCell (p := ⟨w.heap.size + 1 + 1, 0, none⟩) (by simp; omega) _

theorem prefixGoes (ao : Option Addr) (K cap : Nat) (g : Nat → Int) (stop : Int) (w : World) (h : ZRd w (.slice ao K cap) K g) (hK : K ≤ 9223372036854775807) (hTab : TabIn w) :
    Calls Tryd.prog 3 #[.slice ao K cap, .int .i64 stop] w fun e W' => e = .returned (.bool true) ∧ Below w.heap.size w W' := by
  by_cases hb : 80 < K
  · exact goes_big ao K cap stop w hK hb
  by_cases h0 : Fits g K
  · exact (callsIn_wide (n := 20)).1 (goes 20 (Nat.le_refl _) ao K cap _ stop w (fits_tell h h0) (by omega) h0.2 hTab)
  · exact goes_bad ao K cap g stop w h (by omega) h0

end Go.Proofs.YtgcaenpflndibaaDoor
