/-
  The walk over LanePairs: both goings over, the one to the end and the one that may be left, and the counts behind them.
-/
import Derived.Test.YtcgipbeajhlllaaDoorIter
import Derived.RangeFuncBox
import Derived.RangeFuncFrom
import Derived.BigQuiet
namespace Go.Proofs.YtcgipbeajhlllaaDoor
open Go.RowKit Go.Shelf
attribute [local go_sem] Oper.semAt_some

theorem eql_func_nil {P : Program} (w : World) (t : TypeId) (ps rs : Array TypeId) (v : Bool) (fn : Fn) (xs ys : Array Value) (h : P.underlying t = some (.func ps rs v)) :
    (binOp .eql t (.func fn xs ys) .nilFunc).run P w = .ok (.bool false) w := by
  have e : ∀ d, (Op.equalIn (d + 1) t (.func fn xs ys) .nilFunc).run P w = .ok false w := fun d => by simp [Op.equalIn, run_underlying h]
  have e := e 9999
  simp only [binOp]
  simp [Op.equal, Op.maxDepth, e]

theorem only_normal {F : Fence} {n : Nat} {P : Program} {c : Code} {K : Act → World → Prop} {Q : Exit → Act → World → Prop} {a : Act} {w : World} (h : c.wpIn F n P (Exit.then K (fun _ _ _ => False)) a w) : c.wpIn F n P (Exit.then K Q) a w := by
  refine wpIn_mono h ?_
  intro e a' w' he
  cases e <;> first | exact he | exact he.elim

theorem lane_Pairs (n : Nat) (X : Int) (w : World) : CallsIn Fence.wide n Tryd.prog 4 #[.int .u64 X] w fun e w' => e = .returned (.func (.func 8) #[] #[.pointer (some ⟨w.heap.size, 0, none⟩)]) ∧ w' = w.alloc (.cells #[.int .u64 X] 22) := by
  refine callsIn_of_wp Tryd.func4 rfl trivial ?_ rfl
  simp only [Tryd.ntmps4, List.size_toArray, List.length_cons, List.length_nil, Nat.reduceAdd, Nat.reduceSub, Array.replicate_succ, Array.replicate_zero, List.push_toArray, List.append_toArray, List.nil_append, List.cons_append]
  gi_wp2
  go_ret
  exact ⟨rfl, rfl⟩

/-- What has come is the first ones of X. -/
def Good (X : Nat) (pre : List (Int × Int)) : Prop := pre = allP X pre.length
theorem good_all (X k : Nat) : Good X (allP X k) := by unfold Good; rw [allP_len]
theorem good_snoc {X : Nat} {pre : List (Int × Int)} {x : Int × Int} (h : Good X (pre ++ [x])) : x.1 = pre.length ∧ x.2 = sel X pre.length 64 := by
  unfold Good at h
  rw [List.length_append, List.length_singleton, allP_succ] at h
  have h2 := (List.append_inj' h rfl).2
  simp at h2
  rw [h2]
  exact ⟨rfl, rfl⟩

theorem boxed_kept {W W' : World} {row : Option Nat} {B : Nat} {t : TypeId} {v : Value} (h : Boxed W B t v) (hg : W.grownBy W' row) (hr : ∀ r, row = some r → ∃ o : Obj, W.heap[r]? = some o ∧ o.isCells = false) : Boxed W' B t v := by
  refine h.kept hg fun e => ?_
  obtain ⟨o, ho, hc⟩ := hr B e.symm
  rw [show W.heap[B]? = _ from h] at ho
  cases ho; cases hc

theorem ownFrom_block {β : Type} {B D : Nat} {o : Obj} (h : D < B) : OwnFrom B (fun (_ : β) W => W.heap[D]? = some o) :=
  fun _ _ _ _ hs hg hr => (hg.block D (Array.getElem?_eq_some_iff.1 hs).1 (fun e => by have := (hr D e.symm).1; omega)).trans hs

/-- The boxes of the law's own variables, from block B on: the word, the bound, the answer, the word of lane.Pairs, the count. -/
def Bx (B X : Nat) (stop : Int) (k : Nat) (W : World) : Prop :=
  Boxed W B 22 (.int .u64 X) ∧ Boxed W (B + 1) 3 (.int .i64 stop) ∧ Boxed W (B + 1 + 1) 4 (.bool false) ∧ Boxed W (B + 1 + 1 + 1) 22 (.int .u64 X) ∧ Boxed W (B + 1 + 1 + 1 + 1) 3 (.int .i64 k)
theorem Bx.kept {W W' : World} {row : Option Nat} {B X : Nat} {stop : Int} {k : Nat} (h : Bx B X stop k W) (hg : W.grownBy W' row) (hr : ∀ r, row = some r → ∃ o : Obj, W.heap[r]? = some o ∧ o.isCells = false) : Bx B X stop k W' :=
  ⟨boxed_kept h.1 hg hr, boxed_kept h.2.1 hg hr, boxed_kept h.2.2.1 hg hr, boxed_kept h.2.2.2.1 hg hr, boxed_kept h.2.2.2.2 hg hr⟩

theorem below_later {B : Nat} {w V : World} (h : Below B w V) (m : Nat) : Below B w (V.drewN m) := ⟨h.os, h.tape, h.output, h.size, h.block⟩

/-- The way out: true is stored; both loops' blocks are shut. -/
theorem law_end (n : Nat) (w V : World) (D D2 : Nat) (hne : D ≠ D2) (hD : w.heap.size ≤ D) (hD2 : w.heap.size ≤ D2) {tmps : Array Value} {a0 a1 : Array Value}
    (br : Boxed V (w.heap.size + 1 + 1) 4 (.bool false)) (hB : Below w.heap.size w V) (hK : V.heap[D]? = some (.deferred (some []))) (hK2 : V.heap[D2]? = some (.deferred (some []))) (h4 : tmps[4]?.getD undef = .pointer (some ⟨w.heap.size + 1 + 1, 0, none⟩)) :
    LeavesInM Fence.wide n Tryd.prog Tryd.f3 tmps (fun e W' => e = .returned (.bool true) ∧ Below w.heap.size w W') [{ target := .collected D2, args := a0 }, { target := .collected D, args := a1 }] .returning (V.setCell ⟨w.heap.size + 1 + 1, 0, none⟩ (.bool true)) := by
  have br' := br.set (.bool true)
  have hB' : Below w.heap.size w (V.setCell ⟨w.heap.size + 1 + 1, 0, none⟩ (.bool true)) := hB.setCell (p := ⟨w.heap.size + 1 + 1, 0, none⟩) (by simp; omega) _
  have hK' := (KeepsOthers.setCell V ⟨w.heap.size + 1 + 1, 0, none⟩ (.bool true)).same D _ hK rfl
  have hK2' := (KeepsOthers.setCell V ⟨w.heap.size + 1 + 1, 0, none⟩ (.bool true)).same D2 _ hK2 rfl
  generalize V.setCell ⟨w.heap.size + 1 + 1, 0, none⟩ (.bool true) = Z at *
  have br2 := boxed_kept br' (grownBy_putObj' Z D2 (.deferred none)) (fun r e => by cases e; exact ⟨_, hK2', rfl⟩)
  have hK3 : (Z.putObj D2 (.deferred none)).heap[D]? = some (.deferred (some [])) := (World.putObj_heap_other hne).trans hK'
  have hB2 := hB'.trans (belowK_b (w := w) (Nat.le_refl _) Z D2 _ (.deferred none) hD2 hK2' rfl rfl)
  have br3 := boxed_kept br2 (grownBy_putObj' _ D (.deferred none)) (fun r e => by cases e; exact ⟨_, hK3, rfl⟩)
  have hB3 := hB2.trans (belowK_b (w := w) (Nat.le_refl _) _ D _ (.deferred none) hD hK3 rfl rfl)
  refine ⟨by simp, .inl ⟨_, _, rfl, run_takeDeferred hK2', by simp, .inl ⟨_, _, rfl, run_takeDeferred hK3, ?_⟩⟩⟩
  have hc := br3.cell
  refine ⟨.bool true, ?_, rfl, hB3⟩
  simp [results, Tryd.f3, go_sem, h4, hc]

set_option maxRecDepth 100000 in
set_option maxHeartbeats 4000000 in
theorem law (n X : Nat) (hn : 4 ≤ n) (hX : X < 18446744073709551616) (stop : Int) (w : World) (hT : TabIn w) (h0w : 0 < w.heap.size) :
    CallsIn Fence.wide n Tryd.prog 3 #[.int .u64 X, .int .i64 stop] w fun e W' => e = .returned (.bool true) ∧ Below w.heap.size w W' := by
  have h1 : 1 ≤ n := by omega
  have hr64 := rk_le X 64
  refine callsIn_of_wp_marks Tryd.func3 rfl trivial ?_ rfl
  simp only [Tryd.ntmps3, List.size_toArray, List.length_cons, List.length_nil, Nat.reduceAdd, Nat.reduceSub, Array.replicate_succ, Array.replicate_zero, List.push_toArray, List.append_toArray, List.nil_append, List.cons_append]
  gi_wp2_with (refine ⟨trivial, ?_⟩; gi_at_call 4; refine (lane_Pairs _ _ _).mono ?_; rintro e w' ⟨rfl, rfl⟩)
  rw [eql_func_nil _ 24 _ _ _ _ _ _ Tryd.underlying24]
  gi_wp2
  have b0 : Bx w.heap.size X stop 0 (((((w.alloc (Obj.cells #[Value.int IntKind.u64 ↑X] 22)).alloc (Obj.cells #[Value.int IntKind.i64 stop] 3)).alloc (Obj.cells #[Value.bool false] 4)).alloc (Obj.cells #[Value.int IntKind.u64 ↑X] 22)).alloc (Obj.cells #[Value.int IntKind.i64 0] 3)) := by
    refine ⟨((((Boxed.new w _ _).alloc _).alloc _).alloc _).alloc _, ?_, ?_, ?_, ?_⟩
    · have := (((Boxed.new (w.alloc (Obj.cells #[Value.int IntKind.u64 ↑X] 22)) 3 (.int .i64 stop)).alloc (Obj.cells #[Value.bool false] 4)).alloc (Obj.cells #[Value.int IntKind.u64 ↑X] 22)).alloc (Obj.cells #[Value.int IntKind.i64 0] 3)
      rwa [World.size_alloc] at this
    · have := ((Boxed.new ((w.alloc (Obj.cells #[Value.int IntKind.u64 ↑X] 22)).alloc (Obj.cells #[Value.int IntKind.i64 stop] 3)) 4 (.bool false)).alloc (Obj.cells #[Value.int IntKind.u64 ↑X] 22)).alloc (Obj.cells #[Value.int IntKind.i64 0] 3)
      rwa [World.size_alloc, World.size_alloc] at this
    · have := (Boxed.new (((w.alloc (Obj.cells #[Value.int IntKind.u64 ↑X] 22)).alloc (Obj.cells #[Value.int IntKind.i64 stop] 3)).alloc (Obj.cells #[Value.bool false] 4)) 22 (.int .u64 X)).alloc (Obj.cells #[Value.int IntKind.i64 0] 3)
      rwa [World.size_alloc, World.size_alloc, World.size_alloc] at this
    · have := Boxed.new ((((w.alloc (Obj.cells #[Value.int IntKind.u64 ↑X] 22)).alloc (Obj.cells #[Value.int IntKind.i64 stop] 3)).alloc (Obj.cells #[Value.bool false] 4)).alloc (Obj.cells #[Value.int IntKind.u64 ↑X] 22)) 3 (.int .i64 0)
      rwa [World.size_alloc, World.size_alloc, World.size_alloc, World.size_alloc] at this
  have hB0 : Below w.heap.size w (((((w.alloc (Obj.cells #[Value.int IntKind.u64 ↑X] 22)).alloc (Obj.cells #[Value.int IntKind.i64 stop] 3)).alloc (Obj.cells #[Value.bool false] 4)).alloc (Obj.cells #[Value.int IntKind.u64 ↑X] 22)).alloc (Obj.cells #[Value.int IntKind.i64 0] 3)) :=
    (((((Below.refl _ w).alloc (Nat.le_refl _) _).alloc (by simp) _).alloc (by simp; omega) _).alloc (by simp; omega) _).alloc (by simp; omega) _
  generalize (((((w.alloc (Obj.cells #[Value.int IntKind.u64 ↑X] 22)).alloc (Obj.cells #[Value.int IntKind.i64 stop] 3)).alloc (Obj.cells #[Value.bool false] 4)).alloc (Obj.cells #[Value.int IntKind.u64 ↑X] 22)).alloc (Obj.cells #[Value.int IntKind.i64 0] 3)) = W0 at b0 hB0 ⊢
  refine wpIn_rangeFunc_ownF rfl h1 (gf := 8) (lb := #[.pointer (some ⟨w.heap.size + 1 + 1 + 1, 0, none⟩)]) rfl trivial (enters_of Tryd.func8 (by kernel_rfl) rfl)
    (pairs_stops (n - 1) (by omega) (w.heap.size + 1 + 1 + 1) w.heap.size X hX h0w W0 b0.2.2.2.1.lt b0.2.2.2.1.cell (hT.below hB0 h0w) (by have := hB0.size; omega)) belowK_t (belowK_b hB0.size) (Below.refl _ _) (fun _ => rfl)
    (fun pre W => Bx w.heap.size X stop pre.length W ∧ Below w.heap.size w W)
    (fun c pre _ => c = .ret ∧ ¬ Good X pre)
    (OwnFrom.and (Own.from (fun s A B row hs hg hr => hs.kept hg hr) _) (ownFrom_below (Nat.le_refl _) hB0.size))
    (fun _ _ _ _ _ hs _ _ => hs)
    ⟨b0, hB0⟩
    (fun x => { tmps := #[.int .u64 X, .int .i64 stop, .pointer (some ⟨w.heap.size, 0, none⟩), .pointer (some ⟨w.heap.size + 1, 0, none⟩), .pointer (some ⟨w.heap.size + 1 + 1, 0, none⟩), .func (.func 8) #[] #[.pointer (some ⟨w.heap.size + 1 + 1 + 1, 0, none⟩)], .pointer (some ⟨w.heap.size + 1 + 1 + 1 + 1, 0, none⟩), .int .i64 x.1, .int .i64 x.2, undef, undef, undef, undef, .int .u64 X, .func (.func 8) #[] #[.pointer (some ⟨w.heap.size + 1 + 1 + 1, 0, none⟩)], .func (.func 8) #[] #[.pointer (some ⟨w.heap.size + 1 + 1 + 1, 0, none⟩)], .bool false, .func (.func 8) #[] #[.pointer (some ⟨w.heap.size + 1 + 1 + 1, 0, none⟩)], .int .i64 x.1, .int .i64 x.2, undef, undef, undef, undef, undef, undef, undef, undef, undef, undef, undef, undef, undef, undef, undef, undef, undef, undef, undef, undef, undef, undef, undef, undef, undef, undef, undef, undef, undef, undef, undef, undef, undef, undef, undef, undef, undef, undef, undef, undef, undef, undef, undef, undef, undef, undef, undef, undef, undef], defers := [] }) ?assign ?body ?done ?stop
  case assign =>
    intro l x W K hK
    gi_wp2
    exact hK
  case body =>
    rintro l pre ⟨a, b⟩ W ⟨hb, hB⟩ hlen
    have hd : 1 ≤ n - 1 - 1 := by omega
    obtain ⟨bw, bs, br, bp, bn⟩ := hb
    have cw := bw.cell
    have cr := br.cell
    have fr := br.frozen
    have cn := bn.cell
    have fnn := bn.frozen
    by_cases ha : a = pre.length
    · subst ha
      by_cases hb : b = sel X pre.length 64
      · subst hb
        gi_wp2_with (refine ⟨trivial, ?_⟩; gi_at_call 5; refine (CallsIn.inRound l (callsIn_wide.2 (ref_Select X hX _ _))).mono ?_; rintro e w' ⟨rfl, rfl⟩)
        refine ⟨KeepsOthers.setCell _ _ _, (Below.refl w.heap.size _).setCell (p := ⟨w.heap.size + 1 + 1 + 1 + 1, 0, none⟩) (by simp; omega) _, ⟨bw.other (by omega) _, bs.other (by omega) _, br.other (by omega) _, bp.other (by omega) _, ?_⟩, hB.setCell (p := ⟨w.heap.size + 1 + 1 + 1 + 1, 0, none⟩) (by simp; omega) _⟩
        have := bn.set (.int .i64 ((pre.length : Int) + 1))
        simpa using this
      · have hb' : (b != sel X pre.length 64) = true := by simpa using hb
        gi_wp2_with (refine ⟨trivial, ?_⟩; gi_at_call 5; refine (CallsIn.inRound l (callsIn_wide.2 (ref_Select X hX _ _))).mono ?_; rintro e w' ⟨rfl, rfl⟩)
        exact ⟨KeepsOthers.setCell _ _ _, rfl, fun hg => hb (good_snoc hg).2⟩
    · have ha' : (a != (pre.length : Int)) = true := by simpa using ha
      gi_wp2_with (refine ⟨trivial, ?_⟩; gi_at_call 5; refine (CallsIn.inRound l (callsIn_wide.2 (ref_Select X hX _ _))).mono ?_; rintro e w' ⟨rfl, rfl⟩)
      refine ⟨trivial, ?_⟩
      gi_wp2
      exact ⟨KeepsOthers.setCell _ _ _, rfl, fun hg => ha (good_snoc hg).1⟩
  case done =>
    rintro D ys W hD rfl ⟨hb, hB⟩ hK
    rw [allP_len] at hb
    gi_wp2
    obtain ⟨M, hM⟩ : ∃ M, W.heap.size = M := ⟨_, rfl⟩
    have hDM : D < M := by rw [← hM]; exact (Array.getElem?_eq_some_iff.1 hK).1
    have hMB : w.heap.size + 1 + 1 + 1 + 1 < M := by rw [← hM]; exact hb.2.2.2.2.lt
    have bm : Boxed (W.alloc (Obj.cells #[Value.int IntKind.i64 0] 3)) M 3 (.int .i64 0) := by rw [← hM]; exact Boxed.new W _ _
    have hb := hb.kept (World.grownBy_alloc W (Obj.cells #[Value.int IntKind.i64 0] 3) none) (fun r e => by cases e)
    have hK : (W.alloc (Obj.cells #[Value.int IntKind.i64 0] 3)).heap[D]? = some (.deferred (some [])) := (Below.heap_alloc W _ D (by omega)).trans hK
    have hB : Below w.heap.size w (W.alloc (Obj.cells #[Value.int IntKind.i64 0] 3)) := hB.alloc hB.size _
    rw [hM]
    have hsz : (W.alloc (Obj.cells #[Value.int IntKind.i64 0] 3)).heap.size = M + 1 := by simp [hM]
    generalize (W.alloc (Obj.cells #[Value.int IntKind.i64 0] 3)) = W2 at hb hK hB bm hsz ⊢
    clear hM
    refine wpIn_rangeFunc_ownF rfl h1 (gf := 8) (lb := #[.pointer (some ⟨w.heap.size + 1 + 1 + 1, 0, none⟩)]) rfl trivial (enters_of Tryd.func8 (by kernel_rfl) rfl)
      (pairs_stops (n - 1) (by omega) (w.heap.size + 1 + 1 + 1) w.heap.size X hX h0w W2 hb.2.2.2.1.lt hb.2.2.2.1.cell (hT.below hB h0w) (by have := hB.size; omega)) belowK_t (belowK_b hB.size) (Below.refl _ _) (fun _ => rfl)
      (fun pre V => (Bx w.heap.size X stop (rk X 64) V ∧ Boxed V M 3 (.int .i64 pre.length)) ∧ (V.heap[D]? = some (.deferred (some [])) ∧ Below w.heap.size w V) ∧ ¬ (0 < stop ∧ stop ≤ pre.length))
      (fun c pre V => (c = .ret ∧ ¬ Good X pre) ∨ ((c = .exit 2 ∧ 0 < stop ∧ (pre.length : Int) = stop) ∧ (Bx w.heap.size X stop (rk X 64) V ∧ Boxed V M 3 (.int .i64 pre.length)) ∧ (V.heap[D]? = some (.deferred (some [])) ∧ Below w.heap.size w V)))
      (fun s A A' row hs hg hr => ⟨⟨hs.1.1.kept hg (fun r e => (hr r e).2), boxed_kept hs.1.2 hg (fun r e => (hr r e).2)⟩, ⟨ownFrom_block (β := Unit) (B := W2.heap.size) (by omega) () A A' row hs.2.1.1 hg hr, ownFrom_below (β := Unit) (Nat.le_refl _) hB.size () A A' row hs.2.1.2 hg hr⟩, hs.2.2⟩)
      (fun c s A A' row hs hg hr => hs.imp id fun hs => ⟨hs.1, ⟨hs.2.1.1.kept hg (fun r e => (hr r e).2), boxed_kept hs.2.1.2 hg (fun r e => (hr r e).2)⟩, ⟨ownFrom_block (β := Unit) (B := W2.heap.size) (by omega) () A A' row hs.2.2.1 hg hr, ownFrom_below (β := Unit) (Nat.le_refl _) hB.size () A A' row hs.2.2.2 hg hr⟩⟩)
      ⟨⟨hb, bm⟩, ⟨hK, hB⟩, by simp⟩
      (fun x => { tmps := #[.int .u64 X, .int .i64 stop, .pointer (some ⟨w.heap.size, 0, none⟩), .pointer (some ⟨w.heap.size + 1, 0, none⟩), .pointer (some ⟨w.heap.size + 1 + 1, 0, none⟩), .func (.func 8) #[] #[.pointer (some ⟨w.heap.size + 1 + 1 + 1, 0, none⟩)], .pointer (some ⟨w.heap.size + 1 + 1 + 1 + 1, 0, none⟩), undef, undef, .pointer (some ⟨M, 0, none⟩), .int .i64 x.1, .int .i64 x.2, undef, .int .u64 X, .func (.func 8) #[] #[.pointer (some ⟨w.heap.size + 1 + 1 + 1, 0, none⟩)], .func (.func 8) #[] #[.pointer (some ⟨w.heap.size + 1 + 1 + 1, 0, none⟩)], .bool false, .func (.func 8) #[] #[.pointer (some ⟨w.heap.size + 1 + 1 + 1, 0, none⟩)], undef, undef, undef, undef, undef, undef, undef, undef, undef, undef, undef, undef, undef, undef, .func (.func 8) #[] #[.pointer (some ⟨w.heap.size + 1 + 1 + 1, 0, none⟩)], .int .i64 x.1, .int .i64 x.2, undef, undef, undef, undef, undef, undef, undef, undef, undef, undef, undef, undef, undef, undef, undef, undef, undef, undef, undef, undef, undef, undef, undef, undef, undef, undef, undef, undef, undef, undef, undef, undef, undef, undef], defers := [] }) ?assign2 ?body2 ?done2 ?stop2
    case assign2 =>
      intro l x W K hK
      gi_wp2
      exact hK
    case body2 =>
      rintro l pre ⟨a, b⟩ V ⟨⟨hb, bm⟩, ⟨hK, hB⟩, hns⟩ hlen
      have hd : 1 ≤ n - 1 - 1 := by omega
      obtain ⟨bw, bs, br, bp, bn⟩ := hb
      have cw := bw.cell
      have cs := bs.cell
      have cr := br.cell
      have fr := br.frozen
      have cm := bm.cell
      have fm := bm.frozen
      by_cases ha : a = pre.length
      · subst ha
        by_cases hb : b = sel X pre.length 64
        · subst hb
          have hB' : ∀ v, Below w.heap.size w (V.setCell ⟨M, 0, none⟩ v) := fun v => hB.setCell (p := ⟨M, 0, none⟩) (by simp; omega) v
          have hK' : ∀ v, (V.setCell ⟨M, 0, none⟩ v).heap[D]? = some (.deferred (some [])) := fun v => (KeepsOthers.setCell V ⟨M, 0, none⟩ v).same D _ hK rfl
          have hx' : ∀ v, Bx w.heap.size X stop (rk X 64) (V.setCell ⟨M, 0, none⟩ v) := fun v => ⟨bw.other (by omega) _, bs.other (by omega) _, br.other (by omega) _, bp.other (by omega) _, bn.other (by omega) _⟩
          have hm' := bm.set (.int .i64 ((pre.length : Int) + 1))
          have cm' := hm'.cell
          have cs' := (bs.other (show w.heap.size + 1 ≠ M by omega) (.int .i64 ((pre.length : Int) + 1))).cell
          by_cases hst : (pre.length : Int) + 1 = stop
          · subst hst
            gi_wp2_with (refine ⟨trivial, ?_⟩; gi_at_call 5; refine (CallsIn.inRound l (callsIn_wide.2 (ref_Select X hX _ _))).mono ?_; rintro e w' ⟨rfl, rfl⟩)
            refine ⟨KeepsOthers.setCell _ _ _, .inr ⟨⟨rfl, by omega, by simp⟩, ⟨hx' _, by simpa using hm'⟩, hK' _, hB' _⟩⟩
          · have ht : ((pre.length : Int) + 1 == stop) = false := by simpa using hst
            gi_wp2_with (refine ⟨trivial, ?_⟩; gi_at_call 5; refine (CallsIn.inRound l (callsIn_wide.2 (ref_Select X hX _ _))).mono ?_; rintro e w' ⟨rfl, rfl⟩)
            refine ⟨KeepsOthers.setCell _ _ _, (Below.refl w.heap.size _).setCell (p := ⟨M, 0, none⟩) (by simp; omega) _, ⟨hx' _, by simpa using hm'⟩, ⟨hK' _, hB' _⟩, ?_⟩
            rw [List.length_append, List.length_singleton]
            omega
        · have hb' : (b != sel X pre.length 64) = true := by simpa using hb
          gi_wp2_with (refine ⟨trivial, ?_⟩; gi_at_call 5; refine (CallsIn.inRound l (callsIn_wide.2 (ref_Select X hX _ _))).mono ?_; rintro e w' ⟨rfl, rfl⟩)
          exact ⟨KeepsOthers.setCell _ _ _, .inl ⟨rfl, fun hg => hb (good_snoc hg).2⟩⟩
      · have ha' : (a != (pre.length : Int)) = true := by simpa using ha
        gi_wp2_with (refine ⟨trivial, ?_⟩; gi_at_call 5; refine (CallsIn.inRound l (callsIn_wide.2 (ref_Select X hX _ _))).mono ?_; rintro e w' ⟨rfl, rfl⟩)
        refine ⟨trivial, ?_⟩
        gi_wp2
        exact ⟨KeepsOthers.setCell _ _ _, .inl ⟨rfl, fun hg => ha (good_snoc hg).1⟩⟩
    case done2 =>
      rintro D2 ys V hD2 rfl ⟨⟨hb, bm⟩, ⟨hK, hB⟩, hns⟩ hK2
      rw [allP_len] at bm hns
      obtain ⟨bw, bs, br, bp, bn⟩ := hb
      have cw := bw.cell
      have cs := bs.cell
      have cr := br.cell
      have fr := br.frozen
      have cn := bn.cell
      have cm := bm.cell
      by_cases hst : 0 < stop
      · have hmin : min (rk X 64 : Int) stop = rk X 64 := by omega
        have hmx : Tryd.prog.follows .mixedOrders = true := by kernel_rfl
        gi_wp2_with (refine ⟨trivial, ?_⟩; gi_at_call 6; refine (callsIn_wide.2 (ref_Rank X hX _ _)).mono ?_; rintro e w' ⟨rfl, rfl⟩)
        refine only_normal ?_
        gi_region_with_o (first | (refine ⟨trivial, ?_⟩; gi_at_call 6; refine (callsIn_wide.2 (ref_Rank X hX _ _)).mono ?_; rintro e w' ⟨rfl, rfl⟩) | (refine ⟨trivial, ?_⟩; gi_at_call 7; refine (callsIn_wide.2 (live _)).mono ?_; rintro e w' ⟨rfl, m, rfl⟩))
        all_goals gi_wp2
        all_goals exact law_end n w _ D D2 (by omega) (by have := hB0.size; omega) (by have := hB0.size; omega) br (below_later hB _) hK hK2 rfl
      · have hst : ¬ 0 < stop := hst
        have hmx : Tryd.prog.follows .mixedOrders = true := by kernel_rfl
        gi_wp2_with (refine ⟨trivial, ?_⟩; gi_at_call 6; refine (callsIn_wide.2 (ref_Rank X hX _ _)).mono ?_; rintro e w' ⟨rfl, rfl⟩)
        refine only_normal ?_
        gi_region_with_o (first | (refine ⟨trivial, ?_⟩; gi_at_call 6; refine (callsIn_wide.2 (ref_Rank X hX _ _)).mono ?_; rintro e w' ⟨rfl, rfl⟩) | (refine ⟨trivial, ?_⟩; gi_at_call 7; refine (callsIn_wide.2 (live _)).mono ?_; rintro e w' ⟨rfl, m, rfl⟩))
        all_goals gi_wp2
        all_goals exact law_end n w _ D D2 (by omega) (by have := hB0.size; omega) (by have := hB0.size; omega) br (below_later hB _) hK hK2 rfl
    case stop2 =>
      rintro D2 c pre V hD2 ⟨k, hk, rfl⟩ hx hK2
      rcases hx with ⟨_, hng⟩ | ⟨⟨rfl, hst, hlen⟩, ⟨hb, bm⟩, hK, hB⟩
      · exact absurd (good_all X k) hng
      · rw [allP_len] at hlen bm
        rw [hlen] at bm
        obtain ⟨bw, bs, br, bp, bn⟩ := hb
        have cw := bw.cell
        have cs := bs.cell
        have cr := br.cell
        have fr := br.frozen
        have cn := bn.cell
        have cm := bm.cell
        have hmin : min (rk X 64 : Int) stop = stop := by omega
        clear hlen
        have hmx : Tryd.prog.follows .mixedOrders = true := by kernel_rfl
        gi_wp2_with (refine ⟨trivial, ?_⟩; gi_at_call 6; refine (callsIn_wide.2 (ref_Rank X hX _ _)).mono ?_; rintro e w' ⟨rfl, rfl⟩)
        refine only_normal ?_
        gi_region_with_o (first | (refine ⟨trivial, ?_⟩; gi_at_call 6; refine (callsIn_wide.2 (ref_Rank X hX _ _)).mono ?_; rintro e w' ⟨rfl, rfl⟩) | (refine ⟨trivial, ?_⟩; gi_at_call 7; refine (callsIn_wide.2 (live _)).mono ?_; rintro e w' ⟨rfl, m, rfl⟩))
        all_goals gi_wp2
        all_goals exact law_end n w _ D D2 (by omega) (by have := hB0.size; omega) (by have := hB0.size; omega) br (below_later hB _) hK hK2 rfl
  case stop =>
    rintro D c pre W hD ⟨k, _, rfl⟩ ⟨_, hng⟩ hK
    exact absurd (good_all X k) hng
end Go.Proofs.YtcgipbeajhlllaaDoor
