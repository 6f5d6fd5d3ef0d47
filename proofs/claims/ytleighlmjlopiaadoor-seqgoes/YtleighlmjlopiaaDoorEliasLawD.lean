/-
  SeqGoes walked: both goings over, the one to the end and the one that may be left, and the counts behind them.
-/
import Derived.Test.YtleighlmjlopiaaDoorEliasAll
namespace Go.Proofs.YtleighlmjlopiaaDoor
open Go.RowKit Go.Shelf
attribute [local go_sem] Oper.semAt_some

theorem eql_func_nil {P : Program} (w : World) (t : TypeId) (ps rs : Array TypeId) (v : Bool) (fn : Fn) (xs ys : Array Value) (h : P.underlying t = some (.func ps rs v)) :
    (binOp .eql t (.func fn xs ys) .nilFunc).run P w = .ok (.bool false) w := by
  have e : ∀ d, (Op.equalIn (d + 1) t (.func fn xs ys) .nilFunc).run P w = .ok false w := fun d => by simp [Op.equalIn, run_underlying h]
  have e := e 9999
  simp only [binOp]
  simp [Op.equal, Op.maxDepth, e]

theorem tell {w : World} {v : Value} {K : Nat} {g : Nat → Int} (h : ZRd w v K g) (h0 : wrg g K = 0) : ZRd w v K (fun j => (((g j).toNat : Nat) : Int)) := h.congr (wrg_climbs g K h0).1
theorem wrg_tell (g : Nat → Int) (K : Nat) (h0 : wrg g K = 0) : wrg (fun j => (((g j).toNat : Nat) : Int)) K = 0 := by
  have hf : ∀ k, k ≤ K → wrg (fun j => (((g j).toNat : Nat) : Int)) k = wrg g k := fun k => by
    induction k with
    | zero => intro _; rfl
    | succ k ih =>
      intro hk
      have e1 := (wrg_climbs g K h0).1 k (by omega)
      have e2 : 0 < k → g (k - 1) = ((g (k - 1)).toNat : Nat) := fun _ => (wrg_climbs g K h0).1 (k - 1) (by omega)
      rw [wrg, wrg, ih (by omega), ← e1]
      by_cases hk0 : 0 < k
      · rw [← e2 hk0]
      · simp [hk0]
  rw [hf K (Nat.le_refl _)]; exact h0

/-- What has come is the first numbers. -/
def GoodZ (f : Nat → Nat) (pre : List (Int × Int)) : Prop := pre = allZ f pre.length
theorem goodZ_all (f : Nat → Nat) (c : Nat) : GoodZ f (allZ f c) := by unfold GoodZ; rw [allZ_len]
theorem goodZ_snoc {f : Nat → Nat} {pre : List (Int × Int)} {x : Int × Int} (h : GoodZ f (pre ++ [x])) : x.1 = (pre.length : Int) ∧ x.2 = (f pre.length : Int) := by
  unfold GoodZ at h
  rw [List.length_append, List.length_singleton, allZ_succ] at h
  have h2 := (List.append_inj' h rfl).2
  simp at h2
  rw [h2]
  exact ⟨rfl, rfl⟩

theorem boxed_put {W : World} {B : Nat} {t : TypeId} {v : Value} (h : Boxed W B t v) (D : Nat) (o : Obj) (hne : B ≠ D) : Boxed (W.putObj D o) B t v := (World.putObj_heap_other hne).trans h

/-- The way out: true is stored; both loops' blocks are shut. -/
theorem law_end (n : Nat) (w V : World) (D D2 : Nat) (hne : D ≠ D2) (hD : w.heap.size ≤ D) (hD2 : w.heap.size ≤ D2) {tmps : Array Value} {a0 a1 : Array Value}
    (br : Boxed V (w.heap.size + 1 + 1) 4 (.bool false)) (hB : Below w.heap.size w V) (hK : V.heap[D]? = some (.deferred (some []))) (hK2 : V.heap[D2]? = some (.deferred (some []))) (h6 : tmps[4]?.getD undef = .pointer (some ⟨w.heap.size + 1 + 1, 0, none⟩)) :
    LeavesInM Fence.wide n Tryd.prog Tryd.f3 tmps (fun e W' => e = .returned (.bool true) ∧ Below w.heap.size w W') [{ target := .collected D2, args := a0 }, { target := .collected D, args := a1 }] .returning (V.setCell ⟨w.heap.size + 1 + 1, 0, none⟩ (.bool true)) := by
  have br' := br.set (.bool true)
  have hB' : Below w.heap.size w (V.setCell ⟨w.heap.size + 1 + 1, 0, none⟩ (.bool true)) := hB.setCell (p := ⟨w.heap.size + 1 + 1, 0, none⟩) (by simp; omega) _
  have hK' := (KeepsOthers.setCell V ⟨w.heap.size + 1 + 1, 0, none⟩ (.bool true)).same D _ hK rfl
  have hK2' := (KeepsOthers.setCell V ⟨w.heap.size + 1 + 1, 0, none⟩ (.bool true)).same D2 _ hK2 rfl
  generalize V.setCell ⟨w.heap.size + 1 + 1, 0, none⟩ (.bool true) = Z at *
  have n1 : w.heap.size + 1 + 1 ≠ D := fun e => by rw [← e, show Z.heap[w.heap.size + 1 + 1]? = _ from br'] at hK'; cases hK'
  have n2 : w.heap.size + 1 + 1 ≠ D2 := fun e => by rw [← e, show Z.heap[w.heap.size + 1 + 1]? = _ from br'] at hK2'; cases hK2'
  have hK3 : (Z.putObj D2 (.deferred none)).heap[D]? = some (.deferred (some [])) := (World.putObj_heap_other hne).trans hK'
  have br3 := boxed_put (boxed_put br' D2 (.deferred none) n2) D (.deferred none) n1
  have hB3 := (hB'.trans (below_putObj w.heap.size Z D2 (.deferred none) hD2)).trans (below_putObj w.heap.size _ D (.deferred none) hD)
  refine ⟨by simp, .inl ⟨_, _, rfl, run_takeDeferred hK2', by simp, .inl ⟨_, _, rfl, run_takeDeferred hK3, ?_⟩⟩⟩
  have hc := br3.cell
  refine ⟨.bool true, ?_, rfl, hB3⟩
  simp [results, Tryd.f3, go_sem, h6, hc]

set_option maxRecDepth 1000000 in
set_option maxHeartbeats 4000000 in
theorem goes (n : Nat) (hn : 12 ≤ n) (v : Value) (K : Nat) (f : Nat → Nat) (stop : Int) (w : World) (h : ZRd w v K (fun j => (f j : Int))) (hC : Climbs f K) (hb : K ≤ 80) (h0 : wrg (fun j => (f j : Int)) K = 0) (hTab : TabIn w) :
    CallsIn Fence.wide n Tryd.prog 3 #[v, .int .i64 stop] w fun e W' => e = .returned (.bool true) ∧ Below w.heap.size w W' := by
  have h1 : 1 ≤ n := by omega
  obtain ⟨ao, cap, rfl⟩ := h.shape
  obtain ⟨w3, hw3⟩ : ∃ w3, ((w.alloc (.cells #[.slice ao K cap] 22)).alloc (.cells #[.int .i64 stop] 3)).alloc (.cells #[.bool false] 4) = w3 := ⟨_, rfl⟩
  have hM3 : More w w3 := by
    rw [← hw3]
    exact (((Below.refl _ w).alloc (Nat.le_refl _) _).alloc (by simp) _).alloc (by simp; omega) _
  have b0 : Boxed w3 w.heap.size 22 (.slice ao K cap) := by
    rw [← hw3]; exact ((Boxed.new w 22 (.slice ao K cap)).alloc _).alloc _
  have b1 : Boxed w3 (w.heap.size + 1) 3 (.int .i64 stop) := by
    have := (Boxed.new (w.alloc (.cells #[.slice ao K cap] 22)) 3 (.int .i64 stop)).alloc (.cells #[.bool false] 4)
    rw [World.size_alloc] at this
    rw [← hw3]; exact this
  have b2 : Boxed w3 (w.heap.size + 1 + 1) 4 (.bool false) := by
    have := Boxed.new ((w.alloc (.cells #[.slice ao K cap] 22)).alloc (.cells #[.int .i64 stop] 3)) 4 (.bool false)
    rw [World.size_alloc, World.size_alloc] at this
    rw [← hw3]; exact this
  have hw := ref_wrong _ K _ w3 (h.more hM3) (by omega)
  rw [h0] at hw
  have hnew := fun w1 (hm : More w w1) => el_new _ K f w1 (h.more hm) hC (by omega)
  have cl := b0.cell
  have rt : ∀ (i : Int) (w1 : World), More w w1 → Calls Tryd.prog 8 #[.slice ao K cap, .int .i64 i] w1 fun e w' => e = .returned (.int .i64 (atZ f K i)) ∧ w' = w1 := fun i w1 hm => ref_at _ K f i w1 (h.more hm)
  have H0 := Hid.mk (And.intro hM3 (And.intro b0 (And.intro b1 (And.intro b2 hTab))))
  clear h hC h0 hM3 b0 b1 b2 hTab
  refine callsIn_of_wp_marks Tryd.func3 rfl trivial ?_ rfl
  simp only [Tryd.ntmps3, List.size_toArray, List.length_cons, List.length_nil, Nat.reduceAdd, Nat.reduceSub, Array.replicate_succ, Array.replicate_zero, List.push_toArray, List.append_toArray, List.nil_append, List.cons_append]
  gi_wp2_with (first
    | (refine ⟨trivial, ?_⟩; gi_at_call 4; refine (callsIn_wide.2 hw).mono ?_; rintro e w' ⟨rfl, m, hw'⟩; subst w'; clear hw)
    | (refine ⟨trivial, ?_⟩; gi_at_call 6; refine (callsIn_wide.2 (hnew _ (More.trans H0.out.1 (More.drewN w3 m)))).mono ?_; rintro e w4 ⟨s, rfl, hs, hm⟩; have H4 := Hid.mk (And.intro hs (More.trans (More.drewN w3 m) hm)); clear hs hm hnew)
    | (refine ⟨trivial, ?_⟩; gi_at_call 7; refine (eall_call _ _ _).mono ?_; rintro e w' ⟨rfl, hw'⟩; subst w'))
  rw [eql_func_nil _ 30 _ _ _ _ _ _ Tryd.underlying30]
  gi_wp2
  obtain ⟨wB, hwB⟩ : ∃ wB, w4.alloc (.cells #[.pointer (some ⟨s, 0, none⟩)] 25) = wB := ⟨_, rfl⟩
  have h4B : More w4 wB := by rw [← hwB]; exact more_alloc _ _
  have hsB : wB.heap.size = w4.heap.size + 1 := by rw [← hwB]; simp
  have bS : Boxed wB w4.heap.size 25 (.pointer (some ⟨s, 0, none⟩)) := by rw [← hwB]; exact Boxed.new _ _ _
  have h3B := More.trans H4.out.2 h4B
  have hwBm := More.trans H0.out.1 h3B
  have hseq := eall_in (n - 1) (by omega) w4.heap.size _ s f K wB (H4.out.1.more h4B) bS (More.tab H0.out.2.2.2.2 hwBm)
  have a0 := boxed_more H0.out.2.1 h3B
  have a1 := boxed_more H0.out.2.2.1 h3B
  have a2 := boxed_more H0.out.2.2.2.1 h3B
  have hBs : w.heap.size + 1 + 1 < wB.heap.size := a2.lt
  have hW0 : More wB (wB.alloc (.cells #[.int .i64 0] 3)) := more_alloc _ _
  have n0 : Boxed (wB.alloc (.cells #[.int .i64 0] 3)) (w4.heap.size + 1) 3 (.int .i64 0) := by
    have := Boxed.new wB 3 (.int .i64 0)
    rwa [hsB] at this
  rw [hwB]
  have hsW0 : (wB.alloc (.cells #[.int .i64 0] 3)).heap.size = w4.heap.size + 2 := by simp [hsB]
  generalize wB.alloc (.cells #[.int .i64 0] 3) = W0 at hW0 n0 hsW0 ⊢
  clear H0 H4 hwB hw3 cl h4B bS h3B
  refine range_own rfl h1 (gf := 17) (lb := #[.pointer (some ⟨w4.heap.size, 0, none⟩)]) rfl trivial (enters_of Tryd.func17 (by kernel_rfl) rfl)
    hseq hW0.size hW0 (fun _ => rfl)
    (fun pre W => Boxed W (w4.heap.size + 1) 3 (.int .i64 pre.length) ∧ More wB W)
    (fun c pre _ => c = .ret ∧ ¬ GoodZ f pre)
    (fun s A A' h k => ⟨(k.block _ (by omega)).trans h.1, Below.trans h.2 (k.mono hW0.size)⟩)
    (fun _ _ _ _ h _ => h)
    ⟨n0, hW0⟩
    (fun x => { tmps := #[.slice ao K cap, .int .i64 stop, .pointer (some ⟨w.heap.size, 0, none⟩), .pointer (some ⟨w.heap.size + 1, 0, none⟩), .pointer (some ⟨w.heap.size + 1 + 1, 0, none⟩), .pointer (some ⟨s, 0, none⟩), .int .i64 0, .func (.func 17) #[] #[.pointer (some ⟨w4.heap.size, 0, none⟩)], .pointer (some ⟨w4.heap.size + 1, 0, none⟩), .int .i64 x.1, .int .i64 x.2, undef, undef, undef, .slice ao K cap, .int .i64 K, .bool (decide (80 < (K : Int))), .bool (decide (80 < (K : Int))), .slice ao K cap, .int .i64 0, .bool false, .bool (decide (80 < (K : Int))), undef, .tuple #[.pointer (some ⟨s, 0, none⟩), .int .i64 0], .slice ao K cap, .tuple #[.pointer (some ⟨s, 0, none⟩), .int .i64 0], .pointer (some ⟨s, 0, none⟩), .int .i64 0, .pointer (some ⟨s, 0, none⟩), .func (.func 17) #[] #[.pointer (some ⟨w4.heap.size, 0, none⟩)], .func (.func 17) #[] #[.pointer (some ⟨w4.heap.size, 0, none⟩)], .bool false, .func (.func 17) #[] #[.pointer (some ⟨w4.heap.size, 0, none⟩)], .int .i64 x.1, .int .i64 x.2, undef, undef, undef, undef, undef, undef, undef, undef, undef, undef, undef, undef, undef, undef, undef, undef, undef, undef, undef, undef, undef, undef, undef, undef, undef, undef, undef, undef, undef, undef, undef, undef, undef, undef, undef, undef, undef, undef, undef, undef, undef, undef, undef, undef, undef, undef, undef], defers := [] }) ?assign ?body ?done ?stop
  case assign =>
    intro l x W K' hK'
    gi_wp2
    exact hK'
  case body =>
    rintro l pre ⟨xa, xb⟩ W ⟨bn, hM⟩ hsz hlen
    have hd : 1 ≤ n - 1 - 1 := by omega
    have c0 := (boxed_more a0 hM).cell
    have cr := (boxed_more a2 hM).cell
    have fr := (boxed_more a2 hM).frozen
    have cn := bn.cell
    have fnn := bn.frozen
    have hat := rt (pre.length : Int) W (More.trans hwBm hM)
    rw [atZ_in f K pre.length hlen] at hat
    obtain ⟨P, hP⟩ : ∃ P, f pre.length = P := ⟨_, rfl⟩
    rw [hP] at hat
    have HP := Hid.mk hP
    clear hP
    by_cases ha : xa = (pre.length : Int)
    · subst ha
      by_cases hb : xb = (P : Int)
      · subst hb
        gi_wp2_with (refine ⟨trivial, ?_⟩; gi_at_call 8; refine (CallsIn.inRound l (callsIn_wide.2 hat)).mono ?_; rintro e w' ⟨rfl, hw'⟩; subst w')
        refine ⟨(Only.refl wB.heap.size W0.heap.size W).setCell (p := ⟨w4.heap.size + 1, 0, none⟩) (by simp; omega) (by simp; omega) _, ?_, hM.setCell (p := ⟨w4.heap.size + 1, 0, none⟩) (by simp; omega) _⟩
        have := bn.set (.int .i64 ((pre.length : Int) + 1))
        simpa using this
      · have hb' : (xb != (P : Int)) = true := by simpa using hb
        gi_wp2_with (refine ⟨trivial, ?_⟩; gi_at_call 8; refine (CallsIn.inRound l (callsIn_wide.2 hat)).mono ?_; rintro e w' ⟨rfl, hw'⟩; subst w')
        exact ⟨(Only.refl 0 W0.heap.size W).setCell (p := ⟨w.heap.size + 1 + 1, 0, none⟩) (Nat.zero_le _) (by simp; omega) _, rfl, fun hgd => hb ((goodZ_snoc hgd).2.trans (by rw [HP.out]))⟩
    · have ha' : (xa != (pre.length : Int)) = true := by simpa using ha
      gi_wp2_with (refine ⟨trivial, ?_⟩)
      exact ⟨(Only.refl 0 W0.heap.size W).setCell (p := ⟨w.heap.size + 1 + 1, 0, none⟩) (Nat.zero_le _) (by simp; omega) _, rfl, fun hgd => ha ((goodZ_snoc hgd).1.trans (by simp))⟩
  case done =>
    rintro D ys W hD rfl ⟨bn, hM⟩ hKD
    rw [allZ_len] at bn
    gi_wp2
    obtain ⟨M, hMe⟩ : ∃ M, W.heap.size = M := ⟨_, rfl⟩
    have hDM : D < M := by rw [← hMe]; exact (Array.getElem?_eq_some_iff.1 hKD).1
    have hBM : w4.heap.size + 1 < M := by rw [← hMe]; exact bn.lt
    have bm : Boxed (W.alloc (.cells #[.int .i64 0] 3)) M 3 (.int .i64 0) := by rw [← hMe]; exact Boxed.new W _ _
    replace bn := bn.alloc (.cells #[.int .i64 0] 3)
    replace hKD : (W.alloc (.cells #[.int .i64 0] 3)).heap[D]? = some (.deferred (some [])) := (Below.heap_alloc W _ D (by omega)).trans hKD
    replace hM : More wB (W.alloc (.cells #[.int .i64 0] 3)) := hM.alloc hM.size _
    rw [hMe]
    have hsz : (W.alloc (.cells #[.int .i64 0] 3)).heap.size = M + 1 := by simp [hMe]
    generalize W.alloc (.cells #[.int .i64 0] 3) = W2 at bn hKD hM bm hsz ⊢
    clear hMe
    refine range_own rfl h1 (gf := 17) (lb := #[.pointer (some ⟨w4.heap.size, 0, none⟩)]) rfl trivial (enters_of Tryd.func17 (by kernel_rfl) rfl)
      hseq hM.size hM (fun _ => rfl)
      (fun pre V' => (Boxed V' (w4.heap.size + 1) 3 (.int .i64 K) ∧ Boxed V' M 3 (.int .i64 pre.length)) ∧ (V'.heap[D]? = some (.deferred (some [])) ∧ More wB V') ∧ ¬ (0 < stop ∧ stop ≤ pre.length))
      (fun c pre V' => (c = .ret ∧ ¬ GoodZ f pre) ∨ ((c = .exit 2 ∧ 0 < stop ∧ (pre.length : Int) = stop) ∧ (Boxed V' (w4.heap.size + 1) 3 (.int .i64 K) ∧ Boxed V' M 3 (.int .i64 pre.length)) ∧ (V'.heap[D]? = some (.deferred (some [])) ∧ More wB V')))
      (fun s A A' h k => ⟨⟨(k.block _ (by omega)).trans h.1.1, (k.block _ (by omega)).trans h.1.2⟩, ⟨(k.block _ (by omega)).trans h.2.1.1, Below.trans h.2.1.2 (k.mono hM.size)⟩, h.2.2⟩)
      (fun c s A A' h k => h.imp id fun h => ⟨h.1, ⟨(k.block _ (by omega)).trans h.2.1.1, (k.block _ (by omega)).trans h.2.1.2⟩, ⟨(k.block _ (by omega)).trans h.2.2.1, Below.trans h.2.2.2 (k.mono hM.size)⟩⟩)
      ⟨⟨bn, bm⟩, ⟨hKD, hM⟩, by simp⟩
      (fun x => { tmps := #[.slice ao K cap, .int .i64 stop, .pointer (some ⟨w.heap.size, 0, none⟩), .pointer (some ⟨w.heap.size + 1, 0, none⟩), .pointer (some ⟨w.heap.size + 1 + 1, 0, none⟩), .pointer (some ⟨s, 0, none⟩), .int .i64 0, .func (.func 17) #[] #[.pointer (some ⟨w4.heap.size, 0, none⟩)], .pointer (some ⟨w4.heap.size + 1, 0, none⟩), undef, undef, .pointer (some ⟨M, 0, none⟩), .int .i64 x.1, .int .i64 x.2, .slice ao K cap, .int .i64 K, .bool (decide (80 < (K : Int))), .bool (decide (80 < (K : Int))), .slice ao K cap, .int .i64 0, .bool false, .bool (decide (80 < (K : Int))), undef, .tuple #[.pointer (some ⟨s, 0, none⟩), .int .i64 0], .slice ao K cap, .tuple #[.pointer (some ⟨s, 0, none⟩), .int .i64 0], .pointer (some ⟨s, 0, none⟩), .int .i64 0, .pointer (some ⟨s, 0, none⟩), .func (.func 17) #[] #[.pointer (some ⟨w4.heap.size, 0, none⟩)], .func (.func 17) #[] #[.pointer (some ⟨w4.heap.size, 0, none⟩)], .bool false, .func (.func 17) #[] #[.pointer (some ⟨w4.heap.size, 0, none⟩)], undef, undef, undef, undef, undef, undef, undef, undef, undef, undef, undef, undef, undef, undef, .func (.func 17) #[] #[.pointer (some ⟨w4.heap.size, 0, none⟩)], .int .i64 x.1, .int .i64 x.2, undef, undef, undef, undef, undef, undef, undef, undef, undef, undef, undef, undef, undef, undef, undef, undef, undef, undef, undef, undef, undef, undef, undef, undef, undef, undef, undef, undef, undef, undef, undef, undef], defers := [] }) ?assign2 ?body2 ?done2 ?stop2
    case assign2 =>
      intro l x W K' hK'
      gi_wp2
      exact hK'
    case body2 =>
      rintro l pre ⟨xa, xb⟩ V' ⟨⟨bn, bm⟩, ⟨hKD, hM⟩, hns⟩ hszv hlen
      have hd : 1 ≤ n - 1 - 1 := by omega
      have c0 := (boxed_more a0 hM).cell
      have cr := (boxed_more a2 hM).cell
      have fr := (boxed_more a2 hM).frozen
      have cs := (boxed_more a1 hM).cell
      have cn := bn.cell
      have cm := bm.cell
      have fm := bm.frozen
      have hat := rt (pre.length : Int) V' (More.trans hwBm hM)
      rw [atZ_in f K pre.length hlen] at hat
      obtain ⟨P, hP⟩ : ∃ P, f pre.length = P := ⟨_, rfl⟩
      rw [hP] at hat
      have HP := Hid.mk hP
      clear hP
      by_cases ha : xa = (pre.length : Int)
      · subst ha
        by_cases hb : xb = (P : Int)
        · subst hb
          have hM' : ∀ v, More wB (V'.setCell ⟨M, 0, none⟩ v) := fun v => hM.setCell (p := ⟨M, 0, none⟩) (by simp; omega) v
          have hK' : ∀ v, (V'.setCell ⟨M, 0, none⟩ v).heap[D]? = some (.deferred (some [])) := fun v => (KeepsOthers.setCell V' ⟨M, 0, none⟩ v).same D _ hKD rfl
          have bn' : ∀ v, Boxed (V'.setCell ⟨M, 0, none⟩ v) (w4.heap.size + 1) 3 (.int .i64 K) := fun v => bn.other (by omega) _
          have hm' := bm.set (.int .i64 ((pre.length : Int) + 1))
          have cm' := hm'.cell
          have cs' := ((boxed_more a1 hM).other (show w.heap.size + 1 ≠ M by omega) (.int .i64 ((pre.length : Int) + 1))).cell
          have HM' := Hid.mk (And.intro hM' (And.intro hK' (And.intro bn' hm')))
          clear hM' hK' bn' hm'
          by_cases hst : (pre.length : Int) + 1 = stop
          · subst hst
            gi_wp2_with (refine ⟨trivial, ?_⟩; gi_at_call 8; refine (CallsIn.inRound l (callsIn_wide.2 hat)).mono ?_; rintro e w' ⟨rfl, hw'⟩; subst w')
            refine ⟨(Only.refl 0 W2.heap.size V').setCell (p := ⟨M, 0, none⟩) (Nat.zero_le _) (by simp; omega) _, .inr ⟨⟨rfl, by omega, by simp⟩, ⟨HM'.out.2.2.1 _, by simpa using HM'.out.2.2.2⟩, HM'.out.2.1 _, HM'.out.1 _⟩⟩
          · have ht : ((pre.length : Int) + 1 == stop) = false := by simpa using hst
            gi_wp2_with (refine ⟨trivial, ?_⟩; gi_at_call 8; refine (CallsIn.inRound l (callsIn_wide.2 hat)).mono ?_; rintro e w' ⟨rfl, hw'⟩; subst w')
            refine ⟨(Only.refl wB.heap.size W2.heap.size V').setCell (p := ⟨M, 0, none⟩) (by simp; omega) (by simp; omega) _, ⟨HM'.out.2.2.1 _, by simpa using HM'.out.2.2.2⟩, ⟨HM'.out.2.1 _, HM'.out.1 _⟩, ?_⟩
            rw [List.length_append, List.length_singleton]
            omega
        · have hb' : (xb != (P : Int)) = true := by simpa using hb
          gi_wp2_with (refine ⟨trivial, ?_⟩; gi_at_call 8; refine (CallsIn.inRound l (callsIn_wide.2 hat)).mono ?_; rintro e w' ⟨rfl, hw'⟩; subst w')
          exact ⟨(Only.refl 0 W2.heap.size V').setCell (p := ⟨w.heap.size + 1 + 1, 0, none⟩) (Nat.zero_le _) (by simp; omega) _, .inl ⟨rfl, fun hgd => hb ((goodZ_snoc hgd).2.trans (by rw [HP.out]))⟩⟩
      · have ha' : (xa != (pre.length : Int)) = true := by simpa using ha
        gi_wp2_with (refine ⟨trivial, ?_⟩)
        exact ⟨(Only.refl 0 W2.heap.size V').setCell (p := ⟨w.heap.size + 1 + 1, 0, none⟩) (Nat.zero_le _) (by simp; omega) _, .inl ⟨rfl, fun hgd => ha ((goodZ_snoc hgd).1.trans (by simp))⟩⟩
    case done2 =>
      rintro D2 ys V' hD2 rfl ⟨⟨bn, bm⟩, ⟨hKD, hM⟩, hns⟩ hK2
      rw [allZ_len] at bm hns
      have c0 := (boxed_more a0 hM).cell
      have cs := (boxed_more a1 hM).cell
      have br := boxed_more a2 hM
      have cn := bn.cell
      have cm := bm.cell
      have hDA : w.heap.size ≤ D := by have := hwBm.size; omega
      have hD2A : w.heap.size ≤ D2 := by have := hwBm.size; omega
      have hV := More.trans hwBm hM
      gi_wp2_with (refine ⟨trivial, ?_⟩; gi_at_call 5; refine (callsIn_wide.2 (el_live _)).mono ?_; rintro e w' ⟨rfl, hm⟩; have cr := (boxed_more br hm).cell; have fr := (boxed_more br hm).frozen)
      exact law_end n w _ D D2 (by omega) hDA hD2A (boxed_more br hm) (More.trans hV hm) ((hm.block D (Array.getElem?_eq_some_iff.1 hKD).1).trans hKD) ((hm.block D2 (Array.getElem?_eq_some_iff.1 hK2).1).trans hK2) rfl
    case stop2 =>
      rintro D2 c pre V' hD2 ⟨cc, hcc, rfl⟩ hx2 hK2
      rcases hx2 with ⟨_, hng⟩ | ⟨⟨rfl, hst, hlen⟩, ⟨bn, bm⟩, hKD, hM⟩
      · exact absurd (goodZ_all f cc) hng
      · rw [allZ_len] at hlen bm
        rw [hlen] at bm
        have c0 := (boxed_more a0 hM).cell
        have cs := (boxed_more a1 hM).cell
        have br := boxed_more a2 hM
        have cn := bn.cell
        have cm := bm.cell
        have hDA : w.heap.size ≤ D := by have := hwBm.size; omega
        have hD2A : w.heap.size ≤ D2 := by have := hwBm.size; omega
        have hV := More.trans hwBm hM
        by_cases hse : stop = (K : Int)
        · have hbe : (stop == (K : Int)) = true := by simpa using hse
          clear hlen hse
          gi_wp2_with (refine ⟨trivial, ?_⟩; gi_at_call 5; refine (callsIn_wide.2 (el_live _)).mono ?_; rintro e w' ⟨rfl, hm⟩; have cr := (boxed_more br hm).cell; have fr := (boxed_more br hm).frozen)
          exact law_end n w _ D D2 (by omega) hDA hD2A (boxed_more br hm) (More.trans hV hm) ((hm.block D (Array.getElem?_eq_some_iff.1 hKD).1).trans hKD) ((hm.block D2 (Array.getElem?_eq_some_iff.1 hK2).1).trans hK2) rfl
        · have hbe : (stop == (K : Int)) = false := by simpa using hse
          clear hlen hse
          gi_wp2_with (refine ⟨trivial, ?_⟩; gi_at_call 5; refine (callsIn_wide.2 (el_live _)).mono ?_; rintro e w' ⟨rfl, hm⟩; have cr := (boxed_more br hm).cell; have fr := (boxed_more br hm).frozen)
          exact law_end n w _ D D2 (by omega) hDA hD2A (boxed_more br hm) (More.trans hV hm) ((hm.block D (Array.getElem?_eq_some_iff.1 hKD).1).trans hKD) ((hm.block D2 (Array.getElem?_eq_some_iff.1 hK2).1).trans hK2) rfl
  case stop =>
    rintro D c pre W hD ⟨k', _, rfl⟩ ⟨_, hng⟩ hK
    exact absurd (goodZ_all f k') hng

end Go.Proofs.YtleighlmjlopiaaDoor
