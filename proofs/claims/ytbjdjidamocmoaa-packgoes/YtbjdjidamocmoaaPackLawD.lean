/-
  The walk over PackGoes: both goings over, the one to the end and the one that may be left, and the counts behind them.
-/
import Derived.Test.YtbjdjidamocmoaaPackIter
import Derived.RangeFuncBox
import Derived.RangeFuncFrom
import Derived.BigQuiet
namespace Go.Proofs.Ytbjdjidamocmoaa
open Go.RowKit Go.Shelf
attribute [local go_sem] Oper.semAt_some

theorem eql_func_nil {P : Program} (w : World) (t : TypeId) (ps rs : Array TypeId) (v : Bool) (fn : Fn) (xs ys : Array Value) (h : P.underlying t = some (.func ps rs v)) :
    (binOp .eql t (.func fn xs ys) .nilFunc).run P w = .ok (.bool false) w := by
  have e : ∀ d, (Op.equalIn (d + 1) t (.func fn xs ys) .nilFunc).run P w = .ok false w := fun d => by simp [Op.equalIn, run_underlying h]
  have e := e 9999
  simp only [binOp]
  simp [Op.equal, Op.maxDepth, e]

/-- What has come is the first numbers. -/
def Good (g : Nat → Nat) (pre : List (Int × Nat)) : Prop := pre = allN g pre.length
theorem good_all (g : Nat → Nat) (k : Nat) : Good g (allN g k) := by unfold Good; rw [allN_len]
theorem good_snoc {g : Nat → Nat} {pre : List (Int × Nat)} {x : Int × Nat} (h : Good g (pre ++ [x])) : x.1 = pre.length ∧ x.2 = g pre.length := by
  unfold Good at h
  rw [List.length_append, List.length_singleton, allN_succ] at h
  have h2 := (List.append_inj' h rfl).2
  simp at h2
  rw [h2]
  exact ⟨rfl, rfl⟩

theorem boxed_kept {W W' : World} {row : Option Nat} {B : Nat} {t : TypeId} {v : Value} (h : Boxed W B t v) (hg : W.grownBy W' row) (hr : ∀ r, row = some r → ∃ o : Obj, W.heap[r]? = some o ∧ o.isCells = false) : Boxed W' B t v := by
  refine h.kept hg fun e => ?_
  obtain ⟨o, ho, hc⟩ := hr B e.symm
  rw [show W.heap[B]? = _ from h] at ho
  cases ho; cases hc

theorem ownFrom_block {β : Type} {B D : Nat} {o : Obj} (h : D < B) : OwnFrom B (fun (_ : β) W => W.heap[D]? = some o) :=
  fun _ _ _ _ hs hg hr => (hg.block D (Array.getElem?_eq_some_iff.1 hs).1 (fun e => by have := (hr D e.symm).1; omega)).trans hs

theorem boxed_more {W W' : World} {B : Nat} {t : TypeId} {v : Value} (h : Boxed W B t v) (k : More W W') : Boxed W' B t v := (k.block B h.lt).trans h

/-- The way out: true is stored; both loops' blocks are shut. -/
theorem law_end (n : Nat) (w V : World) (D D2 : Nat) (hne : D ≠ D2) (hD : w.heap.size ≤ D) (hD2 : w.heap.size ≤ D2) {tmps : Array Value} {a0 a1 : Array Value}
    (br : Boxed V (w.heap.size + 1 + 1) 4 (.bool false)) (hB : Below w.heap.size w V) (hK : V.heap[D]? = some (.deferred (some []))) (hK2 : V.heap[D2]? = some (.deferred (some []))) (h4 : tmps[4]?.getD undef = .pointer (some ⟨w.heap.size + 1 + 1, 0, none⟩)) :
    LeavesInM Fence.wide n Try.prog Try.f6 tmps (fun e W' => e = .returned (.bool true) ∧ Below w.heap.size w W') [{ target := .collected D2, args := a0 }, { target := .collected D, args := a1 }] .returning (V.setCell ⟨w.heap.size + 1 + 1, 0, none⟩ (.bool true)) := by
  have br' := br.set (.bool true)
  have hB' : Below w.heap.size w (V.setCell ⟨w.heap.size + 1 + 1, 0, none⟩ (.bool true)) := hB.setCell (p := ⟨w.heap.size + 1 + 1, 0, none⟩) (by simp; omega) _
  have hK' := (KeepsOthers.setCell V ⟨w.heap.size + 1 + 1, 0, none⟩ (.bool true)).same D _ hK rfl
  have hK2' := (KeepsOthers.setCell V ⟨w.heap.size + 1 + 1, 0, none⟩ (.bool true)).same D2 _ hK2 rfl
  generalize V.setCell ⟨w.heap.size + 1 + 1, 0, none⟩ (.bool true) = Z at *
  have br2 := boxed_kept br' (grownBy_putObj' Z D2 (.deferred none)) (fun r e => by cases e; exact ⟨_, hK2', rfl⟩)
  have hK3 : (Z.putObj D2 (.deferred none)).heap[D]? = some (.deferred (some [])) := (World.putObj_heap_other hne).trans hK'
  have hB2 := hB'.trans (belowK_b (w := w) (Nat.le_refl _) Z D2 _ (.deferred none) hD2 hK2' rfl rfl)
  have br3 := boxed_kept br2 (grownBy_putObj' _ D (.deferred none)) (fun r e => by cases e; exact ⟨_, hK3, rfl⟩)
  have hB3 := hB2.trans (belowK_b (w := w) (Nat.le_refl _) _ D _ (.deferred none) hD hK3 rfl rfl)
  refine ⟨by simp, .inl ⟨_, _, rfl, run_takeDeferred hK2', by simp, .inl ⟨_, _, rfl, run_takeDeferred hK3, ?_⟩⟩⟩
  have hc := br3.cell
  refine ⟨.bool true, ?_, rfl, hB3⟩
  simp [results, Try.f6, go_sem, h4, hc]

set_option maxRecDepth 100000 in
set_option maxHeartbeats 4000000 in
theorem law (n K : Nat) (f : Nat → Nat) (s : Value) (hn : 4 ≤ n) (stop : Int) (w : World) (h : Rd w s K f) (hf : ∀ j, j < K → f j < 18446744073709551616) (hK : K ≤ 60) :
    CallsIn Fence.wide n Try.prog 6 #[s, .int .i64 stop] w fun e W' => e = .returned (.bool true) ∧ Below w.heap.size w W' := by
  have h1 : 1 ≤ n := by omega
  obtain ⟨ao, cap, rfl⟩ := h.shape
  obtain ⟨w3, hw3⟩ : ∃ w3, ((w.alloc (Obj.cells #[Value.slice ao K cap] 22)).alloc (Obj.cells #[Value.int IntKind.i64 stop] 3)).alloc (Obj.cells #[Value.bool false] 4) = w3 := ⟨_, rfl⟩
  have hM3 : More w w3 := by
    rw [← hw3]
    exact (((Below.refl _ w).alloc (Nat.le_refl _) _).alloc (by simp) _).alloc (by simp; omega) _
  have b0 : Boxed w3 w.heap.size 22 (.slice ao K cap) := by rw [← hw3]; exact ((Boxed.new w _ _).alloc _).alloc _
  have b1 : Boxed w3 (w.heap.size + 1) 3 (.int .i64 stop) := by
    have := (Boxed.new (w.alloc (Obj.cells #[Value.slice ao K cap] 22)) 3 (.int .i64 stop)).alloc (Obj.cells #[Value.bool false] 4)
    rw [World.size_alloc] at this
    rw [← hw3]; exact this
  have b2 : Boxed w3 (w.heap.size + 1 + 1) 4 (.bool false) := by
    have := Boxed.new ((w.alloc (Obj.cells #[Value.slice ao K cap] 22)).alloc (Obj.cells #[Value.int IntKind.i64 stop] 3)) 4 (.bool false)
    rw [World.size_alloc, World.size_alloc] at this
    rw [← hw3]; exact this
  have c0 := b0.cell
  have hfit := pack_fit (.slice ao K cap) K f w3 (h.more hM3) hf (by omega)
  have HH : Hid _ := And.intro h (And.intro hf (And.intro hM3 (And.intro b0 (And.intro b1 b2))))
  clear h hf hM3 b0 b1 b2
  refine callsIn_of_wp_marks Try.func6 rfl trivial ?_ rfl
  simp only [Try.ntmps6, List.size_toArray, List.length_cons, List.length_nil, Nat.reduceAdd, Nat.reduceSub, Array.replicate_succ, Array.replicate_zero, List.push_toArray, List.append_toArray, List.nil_append, List.cons_append]
  gi_wp2_with (first
    | (refine ⟨trivial, ?_⟩; gi_at_call 11; refine (callsIn_wide.2 hfit).mono ?_; rintro e w4 ⟨p, rfl, hp, hm4⟩; have H4 := Hid.mk (And.intro hp hm4); clear hp hm4)
    | (refine ⟨trivial, ?_⟩; gi_at_call 21; refine (pack_all _ _ _).mono ?_; rintro e w5 ⟨rfl, hw5⟩; subst w5))
  rw [eql_func_nil _ 46 _ _ _ _ _ _ Try.underlying46]
  gi_wp2
  obtain ⟨wA, hwA⟩ : ∃ wA, w4.alloc (Obj.cells #[Value.pointer (some ⟨p, 0, none⟩)] 24) = wA := ⟨_, rfl⟩
  have hA4 : More w4 wA := by rw [← hwA]; exact (Below.refl _ w4).alloc (Nat.le_refl _) _
  have hAs : wA.heap.size = w4.heap.size + 1 := by rw [← hwA]; simp
  have bp : Boxed wA w4.heap.size 24 (.pointer (some ⟨p, 0, none⟩)) := by rw [← hwA]; exact Boxed.new w4 _ _
  have hPk := H4.out.1.more hA4
  have h3A : More w3 wA := More.trans H4.out.2 hA4
  have hwAm : More w wA := More.trans HH.out.2.2.1 h3A
  have a0 := boxed_more HH.out.2.2.2.1 h3A
  have a1 := boxed_more HH.out.2.2.2.2.1 h3A
  have a2 := boxed_more HH.out.2.2.2.2.2 h3A
  have hg : ∀ j : Nat, j < K → atV (packV (wid f K) f K) (wid f K) K j = f j := fun j hj => atV_pack (wid f K) f K j (fits f K (wid f K) HH.out.2.1 (Nat.le_refl _)) hj
  have hRd := HH.out.1
  have hBs : w.heap.size + 1 + 1 < w4.heap.size + 1 := by have := a2.lt; omega
  have hW0 : More wA (wA.alloc (Obj.cells #[Value.int IntKind.i64 0] 3)) := (Below.refl _ wA).alloc (Nat.le_refl _) _
  have n0 : Boxed (wA.alloc (Obj.cells #[Value.int IntKind.i64 0] 3)) (w4.heap.size + 1) 3 (.int .i64 0) := by
    have := Boxed.new wA 3 (.int .i64 0)
    rwa [hAs] at this
  rw [hwA]
  clear HH H4 hfit hw3 c0 hA4 h3A hwA
  generalize packV (wid f K) f K = V at hPk hg
  generalize wid f K = d at hPk hg
  generalize wA.alloc (Obj.cells #[Value.int IntKind.i64 0] 3) = W0 at hW0 n0 ⊢
  refine wpIn_rangeFunc_ownF rfl h1 (gf := 35) (lb := #[.pointer (some ⟨w4.heap.size, 0, none⟩)]) rfl trivial (enters_of Try.func35 (by kernel_rfl) rfl)
    (all_stops (n - 1) (by omega) w4.heap.size w3.heap.size p V d K wA W0 hPk bp.lt bp.cell hW0) belowK_t (belowK_b hW0.size) (Below.refl _ _) (fun _ => rfl)
    (fun pre W => Boxed W (w4.heap.size + 1) 3 (.int .i64 pre.length) ∧ More wA W)
    (fun c pre _ => c = .ret ∧ ¬ Good (fun j => atV V d K j) pre)
    (fun s A A' row hs hg hr => ⟨boxed_kept hs.1 hg (fun r e => (hr r e).2), ownFrom_below (β := Unit) (Nat.le_refl _) hW0.size () A A' row hs.2 hg hr⟩)
    (fun _ _ _ _ _ hs _ _ => hs)
    ⟨n0, hW0⟩
    (fun x => { tmps := #[.slice ao K cap, .int .i64 stop, .pointer (some ⟨w.heap.size, 0, none⟩), .pointer (some ⟨w.heap.size + 1, 0, none⟩), .pointer (some ⟨w.heap.size + 1 + 1, 0, none⟩), .func (.func 35) #[] #[.pointer (some ⟨w4.heap.size, 0, none⟩)], .pointer (some ⟨w4.heap.size + 1, 0, none⟩), .int .i64 x.1, .int .u64 x.2, undef, undef, undef, .slice ao K cap, .int .i64 K, .bool (decide (60 < (K : Int))), undef, .slice ao K cap, .pointer (some ⟨p, 0, none⟩), .func (.func 35) #[] #[.pointer (some ⟨w4.heap.size, 0, none⟩)], .func (.func 35) #[] #[.pointer (some ⟨w4.heap.size, 0, none⟩)], .bool false, .func (.func 35) #[] #[.pointer (some ⟨w4.heap.size, 0, none⟩)], .int .i64 x.1, .int .u64 x.2, undef, undef, undef, undef, undef, undef, undef, undef, undef, undef, undef, undef, undef, undef, undef, undef, undef, undef, undef, undef, undef, undef, undef, undef, undef, undef, undef, undef, undef, undef, undef, undef, undef, undef, undef, undef, undef, undef, undef, undef, undef, undef, undef, undef, undef, undef, undef, undef, undef, undef, undef, undef, undef, undef, undef, undef, undef, undef, undef, undef, undef, undef, undef, undef, undef, undef, undef], defers := [] }) ?assign ?body ?done ?stop
  case assign =>
    intro l x W K hK
    gi_wp2
    exact hK
  case body =>
    rintro l pre ⟨a, b⟩ W ⟨bn, hM⟩ hlen
    have hd : 1 ≤ n - 1 - 1 := by omega
    obtain ⟨g, o, rfl, hc⟩ := Rd.cell hRd (w' := W) pre.length hlen
    have hck := hc (More.trans hwAm hM)
    clear hc
    have hgl := hg pre.length hlen
    have cl := (boxed_more a0 hM).cell
    have cr := (boxed_more a2 hM).cell
    have fr := (boxed_more a2 hM).frozen
    have cn := bn.cell
    have fnn := bn.frozen
    by_cases ha : a = pre.length
    · subst ha
      by_cases hb : b = f pre.length
      · subst hb
        gi_wp2
        refine ⟨KeepsOthers.setCell _ _ _, (Below.refl wA.heap.size _).setCell (p := ⟨w4.heap.size + 1, 0, none⟩) (by simp; omega) _, ?_, hM.setCell (p := ⟨w4.heap.size + 1, 0, none⟩) (by simp; omega) _⟩
        have := bn.set (.int .i64 ((pre.length : Int) + 1))
        simpa using this
      · have hb' : ((b : Int) != ((f pre.length : Nat) : Int)) = true := by simp; omega
        gi_wp2
        exact ⟨KeepsOthers.setCell _ _ _, rfl, fun hg => hb ((good_snoc hg).2.trans hgl)⟩
    · have ha' : (a != (pre.length : Int)) = true := by simpa using ha
      gi_wp2
      exact ⟨KeepsOthers.setCell _ _ _, rfl, fun hg => ha (good_snoc hg).1⟩
  case done =>
    rintro D ys W hD rfl ⟨bn, hM⟩ hK
    rw [allN_len] at bn
    gi_wp2
    obtain ⟨M, hMe⟩ : ∃ M, W.heap.size = M := ⟨_, rfl⟩
    have hDM : D < M := by rw [← hMe]; exact (Array.getElem?_eq_some_iff.1 hK).1
    have hBM : w4.heap.size + 1 < M := by rw [← hMe]; exact bn.lt
    have hW0D : wA.heap.size < W0.heap.size := by have := n0.lt; omega
    have bm : Boxed (W.alloc (Obj.cells #[Value.int IntKind.i64 0] 3)) M 3 (.int .i64 0) := by rw [← hMe]; exact Boxed.new W _ _
    have bn := bn.alloc (Obj.cells #[Value.int IntKind.i64 0] 3)
    have hK : (W.alloc (Obj.cells #[Value.int IntKind.i64 0] 3)).heap[D]? = some (.deferred (some [])) := (Below.heap_alloc W _ D (by omega)).trans hK
    have hM : More wA (W.alloc (Obj.cells #[Value.int IntKind.i64 0] 3)) := hM.alloc hM.size _
    rw [hMe]
    have hsz : (W.alloc (Obj.cells #[Value.int IntKind.i64 0] 3)).heap.size = M + 1 := by simp [hMe]
    generalize (W.alloc (Obj.cells #[Value.int IntKind.i64 0] 3)) = W2 at bn hK hM bm hsz ⊢
    clear hMe
    refine wpIn_rangeFunc_ownF rfl h1 (gf := 35) (lb := #[.pointer (some ⟨w4.heap.size, 0, none⟩)]) rfl trivial (enters_of Try.func35 (by kernel_rfl) rfl)
      (all_stops (n - 1) (by omega) w4.heap.size w3.heap.size p V d K wA W2 hPk bp.lt bp.cell hM) belowK_t (belowK_b hM.size) (Below.refl _ _) (fun _ => rfl)
      (fun pre V => (Boxed V (w4.heap.size + 1) 3 (.int .i64 K) ∧ Boxed V M 3 (.int .i64 pre.length)) ∧ (V.heap[D]? = some (.deferred (some [])) ∧ More wA V) ∧ ¬ (0 < stop ∧ stop ≤ pre.length))
      (fun c pre V' => (c = .ret ∧ ¬ Good (fun j => atV V d K j) pre) ∨ ((c = .exit 2 ∧ 0 < stop ∧ (pre.length : Int) = stop) ∧ (Boxed V' (w4.heap.size + 1) 3 (.int .i64 K) ∧ Boxed V' M 3 (.int .i64 pre.length)) ∧ (V'.heap[D]? = some (.deferred (some [])) ∧ More wA V')))
      (fun s A A' row hs hg hr => ⟨⟨boxed_kept hs.1.1 hg (fun r e => (hr r e).2), boxed_kept hs.1.2 hg (fun r e => (hr r e).2)⟩, ⟨ownFrom_block (β := Unit) (B := W2.heap.size) (by omega) () A A' row hs.2.1.1 hg hr, ownFrom_below (β := Unit) (Nat.le_refl _) hM.size () A A' row hs.2.1.2 hg hr⟩, hs.2.2⟩)
      (fun c s A A' row hs hg hr => hs.imp id fun hs => ⟨hs.1, ⟨boxed_kept hs.2.1.1 hg (fun r e => (hr r e).2), boxed_kept hs.2.1.2 hg (fun r e => (hr r e).2)⟩, ⟨ownFrom_block (β := Unit) (B := W2.heap.size) (by omega) () A A' row hs.2.2.1 hg hr, ownFrom_below (β := Unit) (Nat.le_refl _) hM.size () A A' row hs.2.2.2 hg hr⟩⟩)
      ⟨⟨bn, bm⟩, ⟨hK, hM⟩, by simp⟩
      (fun x => { tmps := #[.slice ao K cap, .int .i64 stop, .pointer (some ⟨w.heap.size, 0, none⟩), .pointer (some ⟨w.heap.size + 1, 0, none⟩), .pointer (some ⟨w.heap.size + 1 + 1, 0, none⟩), .func (.func 35) #[] #[.pointer (some ⟨w4.heap.size, 0, none⟩)], .pointer (some ⟨w4.heap.size + 1, 0, none⟩), undef, undef, .pointer (some ⟨M, 0, none⟩), .int .i64 x.1, .int .u64 x.2, .slice ao K cap, .int .i64 K, .bool (decide (60 < (K : Int))), undef, .slice ao K cap, .pointer (some ⟨p, 0, none⟩), .func (.func 35) #[] #[.pointer (some ⟨w4.heap.size, 0, none⟩)], .func (.func 35) #[] #[.pointer (some ⟨w4.heap.size, 0, none⟩)], .bool false, .func (.func 35) #[] #[.pointer (some ⟨w4.heap.size, 0, none⟩)], undef, undef, undef, undef, undef, undef, undef, undef, undef, undef, undef, undef, undef, undef, undef, undef, undef, undef, undef, undef, undef, .func (.func 35) #[] #[.pointer (some ⟨w4.heap.size, 0, none⟩)], .int .i64 x.1, .int .u64 x.2, undef, undef, undef, undef, undef, undef, undef, undef, undef, undef, undef, undef, undef, undef, undef, undef, undef, undef, undef, undef, undef, undef, undef, undef, undef, undef, undef, undef, undef, undef, undef, undef, undef, undef, undef, undef, undef, undef, undef, undef, undef, undef, undef, undef, undef], defers := [] }) ?assign2 ?body2 ?done2 ?stop2
    case assign2 =>
      intro l x W K hK
      gi_wp2
      exact hK
    case body2 =>
      rintro l pre ⟨a, b⟩ V' ⟨⟨bn, bm⟩, ⟨hK, hM⟩, hns⟩ hlen
      have hd : 1 ≤ n - 1 - 1 := by omega
      obtain ⟨g, o, rfl, hc⟩ := Rd.cell hRd (w' := V') pre.length hlen
      have hck := hc (More.trans hwAm hM)
      clear hc
      have hgl := hg pre.length hlen
      have cl := (boxed_more a0 hM).cell
      have cs := (boxed_more a1 hM).cell
      have cr := (boxed_more a2 hM).cell
      have fr := (boxed_more a2 hM).frozen
      have cm := bm.cell
      have fm := bm.frozen
      by_cases ha : a = pre.length
      · subst ha
        by_cases hb : b = f pre.length
        · subst hb
          have hM' : ∀ v, More wA (V'.setCell ⟨M, 0, none⟩ v) := fun v => hM.setCell (p := ⟨M, 0, none⟩) (by simp; omega) v
          have hK' : ∀ v, (V'.setCell ⟨M, 0, none⟩ v).heap[D]? = some (.deferred (some [])) := fun v => (KeepsOthers.setCell V' ⟨M, 0, none⟩ v).same D _ hK rfl
          have bn' : ∀ v, Boxed (V'.setCell ⟨M, 0, none⟩ v) (w4.heap.size + 1) 3 (.int .i64 K) := fun v => bn.other (by omega) _
          have hm' := bm.set (.int .i64 ((pre.length : Int) + 1))
          have cm' := hm'.cell
          have cs' := ((boxed_more a1 hM).other (show w.heap.size + 1 ≠ M by omega) (.int .i64 ((pre.length : Int) + 1))).cell
          by_cases hst : (pre.length : Int) + 1 = stop
          · subst hst
            gi_wp2
            refine ⟨KeepsOthers.setCell _ _ _, .inr ⟨⟨rfl, by omega, by simp⟩, ⟨bn' _, by simpa using hm'⟩, hK' _, hM' _⟩⟩
          · have ht : ((pre.length : Int) + 1 == stop) = false := by simpa using hst
            gi_wp2
            refine ⟨KeepsOthers.setCell _ _ _, (Below.refl wA.heap.size _).setCell (p := ⟨M, 0, none⟩) (by simp; omega) _, ⟨bn' _, by simpa using hm'⟩, ⟨hK' _, hM' _⟩, ?_⟩
            rw [List.length_append, List.length_singleton]
            omega
        · have hb' : ((b : Int) != ((f pre.length : Nat) : Int)) = true := by simp; omega
          gi_wp2
          exact ⟨KeepsOthers.setCell _ _ _, .inl ⟨rfl, fun hg => hb ((good_snoc hg).2.trans hgl)⟩⟩
      · have ha' : (a != (pre.length : Int)) = true := by simpa using ha
        gi_wp2
        exact ⟨KeepsOthers.setCell _ _ _, .inl ⟨rfl, fun hg => ha (good_snoc hg).1⟩⟩
    case done2 =>
      rintro D2 ys V' hD2 rfl ⟨⟨bn, bm⟩, ⟨hK, hM⟩, hns⟩ hK2
      rw [allN_len] at bm hns
      have cl := (boxed_more a0 hM).cell
      have cs := (boxed_more a1 hM).cell
      have br := boxed_more a2 hM
      have cn := bn.cell
      have cm := bm.cell
      have hDA : w.heap.size ≤ D := by have := hwAm.size; omega
      have hD2A : w.heap.size ≤ D2 := by have := hwAm.size; omega
      have hV := More.trans hwAm hM
      by_cases hst : 0 < stop
      · have hst2 : ¬ stop < (K : Int) := by omega
        gi_wp2_with (refine ⟨trivial, ?_⟩; gi_at_call 7; refine (callsIn_wide.2 (live _)).mono ?_; rintro e w' ⟨rfl, hm⟩; have cr := (boxed_more br hm).cell; have fr := (boxed_more br hm).frozen)
        exact law_end n w _ D D2 (by omega) hDA hD2A (boxed_more br hm) (More.trans hV hm) ((hm.block D (Array.getElem?_eq_some_iff.1 hK).1).trans hK) ((hm.block D2 (Array.getElem?_eq_some_iff.1 hK2).1).trans hK2) rfl
      · gi_wp2_with (refine ⟨trivial, ?_⟩; gi_at_call 7; refine (callsIn_wide.2 (live _)).mono ?_; rintro e w' ⟨rfl, hm⟩; have cr := (boxed_more br hm).cell; have fr := (boxed_more br hm).frozen)
        exact law_end n w _ D D2 (by omega) hDA hD2A (boxed_more br hm) (More.trans hV hm) ((hm.block D (Array.getElem?_eq_some_iff.1 hK).1).trans hK) ((hm.block D2 (Array.getElem?_eq_some_iff.1 hK2).1).trans hK2) rfl
    case stop2 =>
      rintro D2 c pre V' hD2 ⟨k, hk, rfl⟩ hx hK2
      rcases hx with ⟨_, hng⟩ | ⟨⟨rfl, hst, hlen⟩, ⟨bn, bm⟩, hK, hM⟩
      · exact absurd (good_all _ k) hng
      · rw [allN_len] at hlen bm
        rw [hlen] at bm
        have cl := (boxed_more a0 hM).cell
        have cs := (boxed_more a1 hM).cell
        have br := boxed_more a2 hM
        have cn := bn.cell
        have cm := bm.cell
        have hDA : w.heap.size ≤ D := by have := hwAm.size; omega
        have hD2A : w.heap.size ≤ D2 := by have := hwAm.size; omega
        have hV := More.trans hwAm hM
        by_cases hst2 : stop < (K : Int)
        · clear hlen
          gi_wp2_with (refine ⟨trivial, ?_⟩; gi_at_call 7; refine (callsIn_wide.2 (live _)).mono ?_; rintro e w' ⟨rfl, hm⟩; have cr := (boxed_more br hm).cell; have fr := (boxed_more br hm).frozen)
          exact law_end n w _ D D2 (by omega) hDA hD2A (boxed_more br hm) (More.trans hV hm) ((hm.block D (Array.getElem?_eq_some_iff.1 hK).1).trans hK) ((hm.block D2 (Array.getElem?_eq_some_iff.1 hK2).1).trans hK2) rfl
        · have hse : stop = (K : Int) := by omega
          have hbe : (stop == (K : Int)) = true := by simpa using hse
          clear hlen hse
          gi_wp2_with (refine ⟨trivial, ?_⟩; gi_at_call 7; refine (callsIn_wide.2 (live _)).mono ?_; rintro e w' ⟨rfl, hm⟩; have cr := (boxed_more br hm).cell; have fr := (boxed_more br hm).frozen)
          exact law_end n w _ D D2 (by omega) hDA hD2A (boxed_more br hm) (More.trans hV hm) ((hm.block D (Array.getElem?_eq_some_iff.1 hK).1).trans hK) ((hm.block D2 (Array.getElem?_eq_some_iff.1 hK2).1).trans hK2) rfl
  case stop =>
    rintro D c pre W hD ⟨k, _, rfl⟩ ⟨_, hng⟩ hK
    exact absurd (good_all _ k) hng
end Go.Proofs.Ytbjdjidamocmoaa
