/-
  TokenLines, walked: the lines, gone over twice.
-/
import Derived.Test.YtldenffdicgjlaaTokLive
namespace Go.Proofs.Ytldenffdicgjlaa
open Go.RowKit Go.Shelf
attribute [local go_sem] Oper.semAt_some

theorem eql_func_nil {P : Program} (w : World) (t : TypeId) (ps rs : Array TypeId) (v : Bool) (fn : Fn) (xs ys : Array Value) (h : P.underlying t = some (.func ps rs v)) :
    (binOp .eql t (.func fn xs ys) .nilFunc).run P w = .ok (.bool false) w := by
  have e : ∀ d, (Op.equalIn (d + 1) t (.func fn xs ys) .nilFunc).run P w = .ok false w := fun d => by simp [Op.equalIn, run_underlying h]
  have e := e 9999
  simp only [binOp]
  simp [Op.equal, Op.maxDepth, e]

theorem boxes2 (w : World) (stop : Int) (w3 : World) (hw3 : (w.alloc (.cells #[.int .i64 stop] 3)).alloc (.cells #[.bool false] 4) = w3) :
    More w w3 ∧ Boxed w3 w.heap.size 3 (.int .i64 stop) ∧ Boxed w3 (w.heap.size + 1) 4 (.bool false) ∧ w3.heap.size = w.heap.size + 1 + 1 := by
  refine ⟨?_, ?_, ?_, ?_⟩
  · rw [← hw3]; exact ((Below.refl _ w).alloc (Nat.le_refl _) _).alloc (by simp) _
  · rw [← hw3]; exact (Boxed.new w 3 (.int .i64 stop)).alloc _
  · have := Boxed.new (w.alloc (.cells #[.int .i64 stop] 3)) 4 (.bool false)
    rw [World.size_alloc] at this
    rw [← hw3]; exact this
  · rw [← hw3]; simp

/-- The way out: true is stored; both loops' blocks are shut. -/
theorem law_end2 (n : Nat) (w V : World) (D D2 : Nat) (hD : w.heap.size + 1 < D) (hD2 : w.heap.size + 1 < D2) (hne : D ≠ D2) {tmps : Array Value}
    (br : Boxed V (w.heap.size + 1) 4 (.bool false)) (hV : Below w.heap.size w V) (hK : V.heap[D]? = some (.deferred (some []))) (hK2 : V.heap[D2]? = some (.deferred (some []))) (h6 : tmps[4]?.getD undef = .pointer (some ⟨w.heap.size + 1, 0, none⟩)) :
    LeavesInM Fence.wide n Try.prog Try.f4 tmps (fun e W' => e = .returned (.bool true) ∧ Below w.heap.size w W') [{ target := .collected D2, args := #[] }, { target := .collected D, args := #[] }] .returning (V.setCell ⟨w.heap.size + 1, 0, none⟩ (.bool true)) := by
  have br' := br.set (.bool true)
  have hV' : Below w.heap.size w (V.setCell ⟨w.heap.size + 1, 0, none⟩ (.bool true)) := hV.setCell (p := ⟨w.heap.size + 1, 0, none⟩) (by simp) _
  have hK' := (KeepsOthers.setCell V ⟨w.heap.size + 1, 0, none⟩ (.bool true)).same D _ hK rfl
  have hK2' := (KeepsOthers.setCell V ⟨w.heap.size + 1, 0, none⟩ (.bool true)).same D2 _ hK2 rfl
  generalize V.setCell ⟨w.heap.size + 1, 0, none⟩ (.bool true) = Z at *
  refine leaves_marks (B := w.heap.size + 1 + 1) (.cons (by omega) hK2' (fun d h e => by
    rcases List.mem_cons.1 h with rfl | h
    · injection e with e; exact hne e
    · cases h) (.cons (by omega) hK' (fun _ h => by cases h) .nil)) fun w' hw' => ?_
  have br3 : Boxed w' (w.heap.size + 1) 4 (.bool true) := (hw'.block _ (by omega)).trans br'
  have hc := br3.cell
  refine ⟨.bool true, ?_, rfl, Below.trans hV' (hw'.mono (by omega))⟩
  simp [results, Try.f4, go_sem, h6, hc]

set_option maxRecDepth 1000000 in
set_option maxHeartbeats 6400000 in
theorem goes (n : Nat) (hn : 20 ≤ n) (l : List UInt8) (hl : l.length ≤ 1000) (stop : Int) (w : World) :
    CallsIn Fence.wide n Try.prog 4 #[.string (bs l), .int .i64 stop] w fun e W' => e = .returned (.bool true) ∧ More w W' := by
  have h1 : 1 ≤ n := by omega
  have hsz : (bs l).size = l.length := bs_size l
  have hl' : ¬ (1000 : Int) < (l.length : Int) := by omega
  obtain ⟨w3, hw3⟩ : ∃ w3, (w.alloc (.cells #[.int .i64 stop] 3)).alloc (.cells #[.bool false] 4) = w3 := ⟨_, rfl⟩
  obtain ⟨hM3, b0, b1, hs3⟩ := boxes2 w stop w3 hw3
  have hln := fun w => rf_lines l (by omega) w
  have hL1 := lns_len l []
  have hseq := fun Bs lo w => lines_in (n - 1) (by omega) Bs lo l (by omega) w
  obtain ⟨L, hL⟩ : ∃ L, lns [] l = L := ⟨_, rfl⟩
  rw [hL] at hln hL1 hseq
  have H0 := Hid.mk (And.intro hM3 (And.intro b0 b1))
  clear hM3 b0 b1 hL
  refine callsIn_of_wp_marks Try.func4 rfl trivial ?_ rfl
  simp only [Try.ntmps4, List.size_toArray, List.length_cons, List.length_nil, Nat.reduceAdd, Nat.reduceSub, Array.replicate_succ, Array.replicate_zero, List.push_toArray, List.append_toArray, List.nil_append, List.cons_append]
  gi_wp2_with (first
    | (refine ⟨trivial, ?_⟩; gi_at_call 15; refine (callsIn_wide.2 (hln _)).mono ?_; rintro e wS ⟨vS, rfl, hG⟩; obtain ⟨aS, cS, rfl⟩ := hG.shape; have HS := Hid.mk hG; clear hG hln
       obtain ⟨wT, hwT⟩ : ∃ wT, wS.alloc (.cells #[.slice none 0 0] 24) = wT := ⟨_, rfl⟩
       have bT : Boxed wT wS.heap.size 24 (.slice none 0 0) := by rw [← hwT]; exact Boxed.new _ _ _
       have cT := bT.cell
       have fT := bT.frozen)
    | (refine ⟨trivial, ?_⟩; gi_at_call 16; refine (lines_call _ _ _).mono ?_; rintro e w' ⟨rfl, hw'⟩; subst w'))
  rw [eql_func_nil _ 30 _ _ _ _ _ _ Try.underlying30]
  gi_wp2
  obtain ⟨wR, hwR⟩ : ∃ wR, wT.setCell ⟨wS.heap.size, 0, none⟩ (.slice aS L.length cS) = wR := ⟨_, rfl⟩
  have hST : More wS wT := by rw [← hwT]; exact more_alloc _ _
  have hsT : wT.heap.size = wS.heap.size + 1 := by rw [← hwT]; simp
  have bR : Boxed wR wS.heap.size 24 (.slice aS L.length cS) := by rw [← hwR]; exact bT.set _
  have hSR : More wS wR := by rw [← hwR]; exact hST.setCell (p := ⟨wS.heap.size, 0, none⟩) (Nat.le_refl _) _
  have hsR : wR.heap.size = wT.heap.size := by rw [← hwR]; simp
  obtain ⟨tB, htB⟩ : ∃ tB, wT.heap.size = tB := ⟨_, rfl⟩
  rw [htB] at hsT hsR ⊢
  rw [hwR]
  obtain ⟨wB, hwB⟩ : ∃ wB, wR.alloc (.cells #[.string (bs l)] 9) = wB := ⟨_, rfl⟩
  have hRB : More wR wB := by rw [← hwB]; exact more_alloc _ _
  have hsB : wB.heap.size = tB + 1 := by rw [← hwB]; simp [hsR]
  have bL : Boxed wB tB 9 (.string (bs l)) := by rw [← hwB, ← hsR]; exact Boxed.new _ _ _
  rw [hwB]
  have h3B : More w3 wB := More.trans HS.out.more (More.trans hSR hRB)
  have hwBm := More.trans H0.out.1 h3B
  have a0 := boxed_more H0.out.2.1 h3B
  have a1 := boxed_more H0.out.2.2 h3B
  have a2 := boxed_more bR hRB
  have hrd := HS.out.rd.more (More.trans hSR hRB)
  have h3S := HS.out.more.size
  have hBs : w.heap.size + 1 < wS.heap.size := by omega
  have hst1 : wS.heap.size + 1 ≤ tB := by omega
  have hsb1 : wB.heap.size ≤ tB + 1 := by omega
  have hsb2 : tB + 1 ≤ wB.heap.size := by omega
  obtain ⟨N, hN⟩ : ∃ N, L.length = N := ⟨_, rfl⟩
  obtain ⟨gS, rfl, hcell⟩ : ∃ g, aS = some ⟨g, 0, none⟩ ∧ ∀ k, k < L.length → wB.cell? ⟨g, k, none⟩ = some (.string (bs (L.getD k []))) := by
    rcases hrd.form with ⟨h, _⟩ | ⟨g, cap, h1, _, h2⟩
    · rw [h] at hL1; simp at hL1
    · exact ⟨g, (Value.slice.inj h1).1, h2⟩
  rw [hN] at a2 hcell hL1 hseq ⊢
  have HC := Hid.mk hcell
  have hW0 : More wB (wB.alloc (.cells #[.int .i64 0] 3)) := more_alloc _ _
  have n0 : Boxed (wB.alloc (.cells #[.int .i64 0] 3)) (tB + 1) 3 (.int .i64 0) := by
    have := Boxed.new wB 3 (.int .i64 0)
    rwa [hsB] at this
  have hsW0 : (wB.alloc (.cells #[.int .i64 0] 3)).heap.size = tB + 2 := by simp [hsB]
  have hsw1 : (wB.alloc (.cells #[.int .i64 0] 3)).heap.size ≤ tB + 2 := by omega
  have hsw2 : tB + 2 ≤ (wB.alloc (.cells #[.int .i64 0] 3)).heap.size := by omega
  clear hsW0
  generalize wB.alloc (.cells #[.int .i64 0] 3) = W0 at hW0 n0 hsw1 hsw2 ⊢
  clear hsT hsR hsB htB hs3 H0 HS hwB hwR hwT hw3 h3B hST hSR hRB bT bR cT fT hcell hrd hN
  refine range_set rfl h1 (gf := 23) (lb := #[.pointer (some ⟨tB, 0, none⟩)]) rfl trivial (enters_of Try.func23 (by kernel_rfl) rfl)
    (hseq tB wB.heap.size wB) hW0.size hW0 (fun _ => rfl)
    (fun pre E V => Boxed V (tB + 1) 3 (.int .i64 pre.length) ∧ More wB V ∧ (∀ j, j < W0.heap.size → E j))
    (fun _ _ _ _ => False)
    (fun s E A A' h k => ⟨k.boxed h.1 (h.2.2 _ (by omega)), Below.trans h.2.1 (k.below fun j hj => h.2.2 j (by omega)), h.2.2⟩)
    (fun _ _ _ _ _ h _ => h)
    (fun _ _ _ h => boxed_more bL h.2.1) ⟨n0, hW0, fun _ h => h⟩
    (fun x => { tmps := #[.string (bs l), .int .i64 stop, undef, .pointer (some ⟨w.heap.size, 0, none⟩), .pointer (some ⟨w.heap.size + 1, 0, none⟩), .pointer (some ⟨wS.heap.size, 0, none⟩), .func (.func 23) #[] #[.pointer (some ⟨tB, 0, none⟩)], .pointer (some ⟨tB + 1, 0, none⟩), .int .i64 x.1, .string (bs x.2), undef, undef, undef, .string (bs l), .int .i64 l.length, .bool false, undef, .string (bs l), .slice (some ⟨gS, 0, none⟩) N cS, .string (bs l), .func (.func 23) #[] #[.pointer (some ⟨tB, 0, none⟩)], .func (.func 23) #[] #[.pointer (some ⟨tB, 0, none⟩)], .bool false, .func (.func 23) #[] #[.pointer (some ⟨tB, 0, none⟩)], .int .i64 x.1, .string (bs x.2), undef, undef, undef, undef, undef, undef, undef, undef, undef, undef, undef, undef, undef, undef, undef, undef, undef, undef, undef, undef, undef, undef, undef, undef, undef, undef, undef, undef, undef, undef, undef, undef, undef, undef, undef, undef, undef, undef, undef, undef, undef, undef, undef, undef, undef, undef, undef, undef, undef, undef, undef, undef, undef, undef, undef, undef, undef, undef, undef, undef, undef], defers := [] }) ?assign ?body ?done ?stop
  case assign =>
    intro l2 x V K' hK'
    gi_wp2
    exact hK'
  case body =>
    rintro l2 pre ⟨x1, x⟩ V E ⟨c, hc, hSp⟩ ⟨bn, hM, hE⟩ hwE hlw hszV hlenN
    obtain ⟨rfl, hx⟩ := numL_next hSp
    clear hSp
    obtain ⟨rfl, rfl⟩ := Prod.mk.inj hx
    have hd : 1 ≤ n - 1 - 1 := by omega
    have c2 := (boxed_more a2 hM).cell
    have cn := bn.cell
    have fnn := bn.frozen
    obtain ⟨k, hk⟩ : ∃ k, pre.length = k := ⟨_, rfl⟩
    rw [hk] at bn cn hc hlenN ⊢
    have ck : V.cell? ⟨gS, k, none⟩ = some (.string (bs (L.getD k []))) := (hM.cell (World.block_lt_of_cell? _ _ (HC.out k (by omega)))).trans (HC.out k (by omega))
    clear hx
    obtain ⟨x, hx⟩ : ∃ x, L.getD k [] = x := ⟨_, rfl⟩
    rw [hx] at ck ⊢
    have HO := Hid.mk (show Turn wB.heap.size E E V (V.setCell ⟨tB + 1, 0, none⟩ (.int .i64 ((k : Int) + 1))) ∧ Boxed (V.setCell ⟨tB + 1, 0, none⟩ (.int .i64 ((k : Int) + 1))) (tB + 1) 3 (.int .i64 ((pre ++ [((k : Int), x)]).length : Nat)) ∧ More wB (V.setCell ⟨tB + 1, 0, none⟩ (.int .i64 ((k : Int) + 1))) from
      ⟨(Turn.refl _ _ _).setCell (p := ⟨tB + 1, 0, none⟩) (by show wB.heap.size ≤ tB + 1; omega) (hE _ (by show tB + 1 < _; omega)) _, by have h := bn.set (.int .i64 ((k : Int) + 1)); rw [List.length_append, List.length_singleton, hk]; simpa using h, hM.setCell (p := ⟨tB + 1, 0, none⟩) (by show wB.heap.size ≤ tB + 1; omega) _⟩)
    clear bn hx hk a2 hM
    gi_wp2
    exact ⟨E, HO.out.1, HO.out.2.1, HO.out.2.2, hE⟩
  case done =>
    rintro D ys E V1 hD hED rfl ⟨bn, hM, hE⟩ hwE hlow hKD
    rw [numL_len] at bn
    have hDlt := (Array.getElem?_eq_some_iff.1 hKD).1
    gi_wp2
    have hW1 : More V1 (V1.alloc (.cells #[.int .i64 0] 3)) := more_alloc _ _
    have m0 : Boxed (V1.alloc (.cells #[.int .i64 0] 3)) V1.heap.size 3 (.int .i64 0) := Boxed.new _ _ _
    have hsW1 : (V1.alloc (.cells #[.int .i64 0] 3)).heap.size = V1.heap.size + 1 := by simp
    have hV1 := hM.size
    have hsx1 : (V1.alloc (.cells #[.int .i64 0] 3)).heap.size ≤ V1.heap.size + 1 := by omega
    have hsx2 : V1.heap.size + 1 ≤ (V1.alloc (.cells #[.int .i64 0] 3)).heap.size := by omega
    clear hsW1
    generalize V1.alloc (.cells #[.int .i64 0] 3) = W1 at hW1 m0 hsx1 hsx2 ⊢
    refine range_set rfl h1 (gf := 23) (lb := #[.pointer (some ⟨tB, 0, none⟩)]) rfl trivial (enters_of Try.func23 (by kernel_rfl) rfl)
      (hseq tB V1.heap.size V1) hW1.size hW1 (fun _ => rfl)
      (fun pre E V => Boxed V V1.heap.size 3 (.int .i64 pre.length) ∧ More V1 V ∧ ¬ (0 < stop ∧ stop ≤ pre.length) ∧ (∀ j, j < W1.heap.size → E j))
      (fun c pre E V => (c = .exit 2 ∧ 0 < stop ∧ (pre.length : Int) = stop) ∧ Boxed V V1.heap.size 3 (.int .i64 pre.length) ∧ More V1 V ∧ (∀ j, j < W1.heap.size → E j))
      (fun s E A A' h k => ⟨k.boxed h.1 (h.2.2.2 _ (by omega)), Below.trans h.2.1 (k.below fun j hj => h.2.2.2 j (by omega)), h.2.2.1, h.2.2.2⟩)
      (fun c s E A A' h k => ⟨h.1, k.boxed h.2.1 (h.2.2.2 _ (by omega)), Below.trans h.2.2.1 (k.below fun j hj => h.2.2.2 j (by omega)), h.2.2.2⟩)
      (fun _ _ _ h => boxed_more bL (More.trans hM h.2.1)) ⟨m0, hW1, by simp, fun _ h => h⟩
      (fun x => { tmps := #[.string (bs l), .int .i64 stop, undef, .pointer (some ⟨w.heap.size, 0, none⟩), .pointer (some ⟨w.heap.size + 1, 0, none⟩), .pointer (some ⟨wS.heap.size, 0, none⟩), .func (.func 23) #[] #[.pointer (some ⟨tB, 0, none⟩)], .pointer (some ⟨tB + 1, 0, none⟩), undef, undef, .pointer (some ⟨V1.heap.size, 0, none⟩), .int .i64 x.1, .string (bs x.2), .string (bs l), .int .i64 l.length, .bool false, undef, .string (bs l), .slice (some ⟨gS, 0, none⟩) N cS, .string (bs l), .func (.func 23) #[] #[.pointer (some ⟨tB, 0, none⟩)], .func (.func 23) #[] #[.pointer (some ⟨tB, 0, none⟩)], .bool false, .func (.func 23) #[] #[.pointer (some ⟨tB, 0, none⟩)], undef, undef, undef, undef, undef, undef, undef, undef, undef, undef, undef, undef, undef, undef, undef, undef, undef, undef, undef, undef, undef, .func (.func 23) #[] #[.pointer (some ⟨tB, 0, none⟩)], .int .i64 x.1, .string (bs x.2), undef, undef, undef, undef, undef, undef, undef, undef, undef, undef, undef, undef, undef, undef, undef, undef, undef, undef, undef, undef, undef, undef, undef, undef, undef, undef, undef, undef, undef, undef, undef, undef, undef, undef, undef, undef, undef, undef, undef], defers := [] }) ?assign2 ?body2 ?done2 ?stop2
    case assign2 =>
      intro l2 x V K' hK'
      gi_wp2
      exact hK'
    case body2 =>
      rintro l2 pre ⟨x1, x⟩ V E2 ⟨c, hc, hSp⟩ ⟨bm, hM2, hns, hE2⟩ hwE2 hlw2 hszV hlenN
      obtain ⟨rfl, hx⟩ := numL_next hSp
      clear hSp
      obtain ⟨rfl, rfl⟩ := Prod.mk.inj hx
      have hd : 1 ≤ n - 1 - 1 := by omega
      have hMB := More.trans hM hM2
      have c0 := (boxed_more a0 hMB).cell
      have c2 := (boxed_more a2 hMB).cell
      have cm := bm.cell
      have fm := bm.frozen
      obtain ⟨k, hk⟩ : ∃ k, pre.length = k := ⟨_, rfl⟩
      rw [hk] at bm cm hc hlenN hns ⊢
      have ck : V.cell? ⟨gS, k, none⟩ = some (.string (bs (L.getD k []))) := (hMB.cell (World.block_lt_of_cell? _ _ (HC.out k (by omega)))).trans (HC.out k (by omega))
      clear hx
      obtain ⟨x, hx⟩ : ∃ x, L.getD k [] = x := ⟨_, rfl⟩
      rw [hx] at ck ⊢
      have b3 := bm.set (.int .i64 ((k : Int) + 1))
      have c3 := b3.cell
      have c03 := ((boxed_more a0 hMB).other (show w.heap.size ≠ V1.heap.size by omega) (.int .i64 ((k : Int) + 1))).cell
      have HO := Hid.mk (show (∀ lo, lo ≤ V1.heap.size → Turn lo E2 E2 V (V.setCell ⟨V1.heap.size, 0, none⟩ (.int .i64 ((k : Int) + 1)))) ∧ Boxed (V.setCell ⟨V1.heap.size, 0, none⟩ (.int .i64 ((k : Int) + 1))) V1.heap.size 3 (.int .i64 ((pre ++ [((k : Int), x)]).length : Nat)) ∧ More V1 (V.setCell ⟨V1.heap.size, 0, none⟩ (.int .i64 ((k : Int) + 1))) ∧ (((pre ++ [((k : Int), x)]).length : Nat) : Int) = (k : Int) + 1 from
        ⟨fun lo hlo => (Turn.refl _ _ _).setCell (p := ⟨V1.heap.size, 0, none⟩) hlo (hE2 _ (by show V1.heap.size < _; omega)) _, by rw [List.length_append, List.length_singleton, hk]; simpa using b3, hM2.setCell (p := ⟨V1.heap.size, 0, none⟩) (Nat.le_refl _) _, by rw [List.length_append, List.length_singleton, hk]; simp⟩)
      clear bm b3 hx hk hM2 hMB hseq
      by_cases hst : (k : Int) + 1 = stop
      · subst hst
        gi_wp2
        exact ⟨E2, HO.out.1 0 (Nat.zero_le _), ⟨rfl, by omega, by rw [HO.out.2.2.2]⟩, HO.out.2.1, HO.out.2.2.1, hE2⟩
      · have ht : ((k : Int) + 1 == stop) = false := by simpa using hst
        gi_wp2
        exact ⟨E2, HO.out.1 _ (Nat.le_refl _), HO.out.2.1, HO.out.2.2.1, by rw [HO.out.2.2.2]; omega, hE2⟩
    case done2 =>
      rintro D2 ys E2 V hD2 hED2 rfl ⟨bm, hM2, hns, hE2⟩ hwE2 hlow2 hKD2
      rw [numL_len] at bm
      have hV := More.trans hwBm (More.trans hM hM2)
      have c2 := (boxed_more a2 (More.trans hM hM2)).cell
      have c0 := (boxed_more a0 (More.trans hM hM2)).cell
      have br := boxed_more a1 (More.trans hM hM2)
      have cn := (boxed_more bn hM2).cell
      have cm := bm.cell
      have hKD' := (hM2.block D hDlt).trans hKD
      gi_wp2_with (refine ⟨trivial, ?_⟩; gi_at_call 7; refine (callsIn_wide.2 (live_true _)).mono ?_; rintro e w' ⟨rfl, hm⟩; have cr := (boxed_more br hm).cell; have fr := (boxed_more br hm).frozen)
      exact law_end2 n w _ D D2 (by omega) (by omega) (by omega) (boxed_more br hm) (More.trans hV hm) ((hm.block D (Array.getElem?_eq_some_iff.1 hKD').1).trans hKD') ((hm.block D2 (Array.getElem?_eq_some_iff.1 hKD2).1).trans hKD2) rfl
    case stop2 =>
      rintro D2 c pre E2 V hD2 hED2 ⟨cc, hcc, rfl⟩ ⟨⟨rfl, hst, hlen⟩, bm, hM2, hE2⟩ hwE2 hlow2 hKD2
      rw [numL_len] at hlen bm
      rw [hlen] at bm
      have hV := More.trans hwBm (More.trans hM hM2)
      have c2 := (boxed_more a2 (More.trans hM hM2)).cell
      have c0 := (boxed_more a0 (More.trans hM hM2)).cell
      have br := boxed_more a1 (More.trans hM hM2)
      have cn := (boxed_more bn hM2).cell
      have cm := bm.cell
      have hKD' := (hM2.block D hDlt).trans hKD
      by_cases hse : stop = (N : Int)
      · have hbe : (stop == (N : Int)) = true := by simpa using hse
        clear hlen hse
        gi_wp2_with (refine ⟨trivial, ?_⟩; gi_at_call 7; refine (callsIn_wide.2 (live_true _)).mono ?_; rintro e w' ⟨rfl, hm⟩; have cr := (boxed_more br hm).cell; have fr := (boxed_more br hm).frozen)
        exact law_end2 n w _ D D2 (by omega) (by omega) (by omega) (boxed_more br hm) (More.trans hV hm) ((hm.block D (Array.getElem?_eq_some_iff.1 hKD').1).trans hKD') ((hm.block D2 (Array.getElem?_eq_some_iff.1 hKD2).1).trans hKD2) rfl
      · have hbe : (stop == (N : Int)) = false := by simpa using hse
        clear hlen hse
        gi_wp2_with (refine ⟨trivial, ?_⟩; gi_at_call 7; refine (callsIn_wide.2 (live_true _)).mono ?_; rintro e w' ⟨rfl, hm⟩; have cr := (boxed_more br hm).cell; have fr := (boxed_more br hm).frozen)
        exact law_end2 n w _ D D2 (by omega) (by omega) (by omega) (boxed_more br hm) (More.trans hV hm) ((hm.block D (Array.getElem?_eq_some_iff.1 hKD').1).trans hKD') ((hm.block D2 (Array.getElem?_eq_some_iff.1 hKD2).1).trans hKD2) rfl
  case stop =>
    rintro D cc pre E V hD hED _ h _ _ _
    exact h.elim

set_option maxHeartbeats 1600000 in
set_option maxRecDepth 1000000 in
theorem goes_big (l : List UInt8) (hl : l.length ≤ 9223372036854775807) (hb : 1000 < l.length) (stop : Int) (w : World) :
    Calls Try.prog 4 #[.string (bs l), .int .i64 stop] w fun e W' => e = .returned (.bool true) ∧ More w W' := by
  have hsz : (bs l).size = l.length := bs_size l
  have hb' : (1000 : Int) < (l.length : Int) := by omega
  obtain ⟨w3, hw3⟩ : ∃ w3, (w.alloc (.cells #[.int .i64 stop] 3)).alloc (.cells #[.bool false] 4) = w3 := ⟨_, rfl⟩
  obtain ⟨hM3, b0, b1, _⟩ := boxes2 w stop w3 hw3
  have H0 := Hid.mk (And.intro hM3 b1)
  generalize l.length = n at *
  clear hM3 b0 b1
  go_enter Try.func4, Try.ntmps4
  go_wp2_with (go_at_call 7; refine (live_true _).mono ?_; rintro e w5 ⟨rfl, hm⟩; have br := boxed_more H0.out.2 hm; have cr := br.cell; have fr := br.frozen; have hc := (br.set (.bool true)).cell; have H5 := Hid.mk hm; clear hm)
  refine bodyPost_ret (v := .bool true) ?_ rfl ⟨rfl, ?_⟩
  · simp [results, Try.f4, go_sem, hc]
  · exact (More.trans H0.out.1 H5.out).setCell (p := ⟨w.heap.size + 1, 0, none⟩) (by simp) _

theorem tokenLines (l : List UInt8) (hl : l.length ≤ 9223372036854775807) (stop : Int) (w : World) :
    Calls Try.prog 4 #[.string (bs l), .int .i64 stop] w fun e W' => e = .returned (.bool true) ∧ More w W' := by
  by_cases hb : 1000 < l.length
  · exact goes_big l hl hb stop w
  · exact (callsIn_wide (n := 20)).1 (goes 20 (Nat.le_refl _) l (by omega) stop w)
end Go.Proofs.Ytldenffdicgjlaa
