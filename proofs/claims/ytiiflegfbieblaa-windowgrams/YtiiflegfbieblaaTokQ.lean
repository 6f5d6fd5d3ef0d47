/-
  token.All, walked.
-/
import Derived.Test.YtiiflegfbieblaaTokW
import Derived.Test.YtiiflegfbieblaaTokL
namespace Go.Proofs.Ytiiflegfbieblaa
open Go.RowKit Go.Shelf
attribute [local go_sem] Oper.semAt_some

/-- A row of texts in blocks of the set, from block 'top' on. -/
def SIn (E : Nat → Prop) (top : Nat) (V : World) (u : Value) (ts : List (List UInt8)) : Prop := ∃ Bq, V.ownsRow Bq 9 1 u ts.length (strs ts) ∧ ∀ j, u.ownBlock = some j → E j ∧ top ≤ j
theorem SIn.stay {E : Nat → Prop} {top : Nat} {V V' : World} {u : Value} {ts : List (List UInt8)} (h : SIn E top V u ts) (st : Stay E V V') : SIn E top V' u ts := by
  obtain ⟨Bq, h1, h2⟩ := h
  exact ⟨Bq, own_stay h1 (fun j hj => (h2 j hj).1) st, h2⟩
theorem SIn.wider {E E' : Nat → Prop} {top : Nat} {V : World} {u : Value} {ts : List (List UInt8)} (h : SIn E top V u ts) (k : ∀ j, E j → E' j) : SIn E' top V u ts := by
  obtain ⟨Bq, h1, h2⟩ := h
  exact ⟨Bq, h1, fun j hj => ⟨k j (h2 j hj).1, (h2 j hj).2⟩⟩
theorem SIn.rd {E : Nat → Prop} {top : Nat} {V : World} {u : Value} {ts : List (List UInt8)} (h : SIn E top V u ts) : SRd V u ts := by
  obtain ⟨Bq, h1, _⟩ := h
  exact ⟨Bq, h1⟩
theorem SIn.app {E E2 : Nat → Prop} {top B base n : Nat} {W2 Va w4 : World} {u v v4 : Value} {ts : List (List UInt8)} {xs : List Value} (h : SIn E top W2 u ts) (hrow : W2.ownsRow base 22 1 v n xs) (hm : More W2 Va) (hg : Va.grownBy w4 v.ownBlock) (hB : B < top) (k : ∀ j, E j → E2 j) : SIn E2 top (w4.setCell ⟨B, 0, none⟩ v4) u ts := by
  obtain ⟨Bq, h1, h2⟩ := h
  have h3 : SRd Va u ts := ⟨Bq, hm.own h1⟩
  obtain ⟨Bq', h4⟩ := h3.grown hg (hm.own hrow)
  refine ⟨Bq', h4.kept (grownBy_setCell' w4 B _) ?_, fun j hj => ⟨k j (h2 j hj).1, (h2 j hj).2⟩⟩
  cases hv : u.ownBlock with
  | none => exact .inl rfl
  | some j => exact .inr (fun e => by have h5 := (h2 j hv).2; have h6 : j = B := Option.some.inj e; omega)

/-- Between two rounds of All: c lines have come. -/
structure AlI (w : World) (l : List UInt8) (ss : List (List (List UInt8))) (E : Nat → Prop) (V : World) : Prop where
  row : ∃ vs, BoxRow 66 22 w.heap.size (w.heap.size + 1 + 1) vs E V ∧ vs.length = ss.length ∧ ∀ j, j < ss.length → SIn E (w.heap.size + 1 + 1) V (vs.getD j undef) (ss.getD j [])
  bs : Boxed V (w.heap.size + 1) 9 (.string (bs l))
  more : More w V
  low : ∀ j, j < w.heap.size + 1 + 1 → E j
  sz : w.heap.size + 1 + 1 ≤ V.heap.size
theorem AlI.stay {w : World} {l : List UInt8} {ss : List (List (List UInt8))} {E : Nat → Prop} {V V' : World} (h : AlI w l ss E V) (st : Stay E V V') : AlI w l ss E V' := by
  obtain ⟨vs, h1, h2, h3⟩ := h.row
  exact ⟨⟨vs, h1.stay st (h.low _ (by omega)), h2, fun j hj => (h3 j hj).stay st⟩, st.boxed h.bs (h.low _ (by omega)), Below.trans h.more (st.below fun j hj => h.low j (by omega)), h.low, Nat.le_trans h.sz st.size⟩
theorem AlI.later {w : World} {l : List UInt8} {ss : List (List (List UInt8))} {E : Nat → Prop} {V V' : World} (h : AlI w l ss E V) (hm : More V V') (hE : Within E V) : AlI w l ss (fun k => E k ∨ (V.heap.size ≤ k ∧ k < V'.heap.size)) V' := by
  have st := h.stay (Stay.of_more hm hE)
  obtain ⟨vs, h1, h2, h3⟩ := st.row
  exact ⟨⟨vs, h1.wider fun _ => .inl, h2, fun j hj => (h3 j hj).wider fun _ => .inl⟩, st.bs, st.more, fun j hj => .inl (st.low j hj), st.sz⟩
theorem numL_nextQ {L : List (List UInt8)} {pre : List (Int × List UInt8)} {x : Int × List UInt8} {c : Nat} (h : pre ++ [x] = numL L c) : c = pre.length + 1 ∧ x = ((pre.length : Int), L.getD pre.length []) := by
  have hl := congrArg List.length h
  rw [numL_len] at hl
  simp at hl
  subst hl
  rw [numL_succ] at h
  have := (List.append_inj' h rfl).2
  simp at this
  exact ⟨rfl, this⟩

set_option maxRecDepth 1000000 in
set_option maxHeartbeats 4000000 in
theorem tk_all (n : Nat) (hn : 32 ≤ n) (l : List UInt8) (hl : l.length ≤ 1000000) (w : World) :
    CallsIn Fence.wide n Try.prog 37 #[.string (bs l)] w fun e w' => ∃ v, e = .returned v ∧ Sents w v (allS l) w' := by
  have h1 : 1 ≤ n := by omega
  obtain ⟨i0, hi, hz0, hz1, hz2⟩ := info_parts Try.infoStrs
  have hseq := lines_in (n - 1) (by omega) (w.heap.size + 1) w.heap.size l hl w
  obtain ⟨L, hL⟩ : ∃ L, lns [] l = L := ⟨_, rfl⟩
  have hL1 := lns_len l []
  have hLs := lns_size l []
  have HA := Hid.mk (show allS l = snt L by unfold allS; rw [hL])
  rw [hL] at hseq hL1 hLs
  have HLs := Hid.mk hLs
  clear hL hLs
  have HSN := Hid.mk (fun i (h : i < L.length) => snt_step L h)
  obtain ⟨wa, hwa⟩ : ∃ wa, w.alloc (.cells #[.slice none 0 0] 66) = wa := ⟨_, rfl⟩
  have ba : Boxed wa w.heap.size 66 (.slice none 0 0) := by rw [← hwa]; exact Boxed.new _ _ _
  have hsa : wa.heap.size = w.heap.size + 1 := by rw [← hwa]; simp
  have hma : More w wa := by rw [← hwa]; exact more_alloc _ _
  have HH := Hid.mk (And.intro ba hma)
  clear ba hma
  refine callsIn_of_wp_marks Try.func37 rfl trivial ?_ rfl
  simp only [Try.ntmps37, List.size_toArray, List.length_cons, List.length_nil, Nat.reduceAdd, Nat.reduceSub, Array.replicate_succ, Array.replicate_zero, List.push_toArray, List.append_toArray, List.nil_append, List.cons_append]
  gi_wp2_with (refine ⟨trivial, ?_⟩; gi_at_call 59; refine (lines_call _ _ _).mono ?_; rintro e w' ⟨rfl, hw'⟩; subst w')
  obtain ⟨w1, hw1⟩ : ∃ w1, wa.alloc (.cells #[.string (bs l)] 9) = w1 := ⟨_, rfl⟩
  have hm1 : More wa w1 := by rw [← hw1]; exact more_alloc _ _
  have hs1 : w1.heap.size = w.heap.size + 1 + 1 := by rw [← hw1]; simp [hsa]
  have b5 : Boxed w1 (w.heap.size + 1) 9 (.string (bs l)) := by rw [← hw1, ← hsa]; exact Boxed.new _ _ _
  have hA1 := More.trans HH.out.2 hm1
  have st1 : AlI w l (snt (L.take 0)) (fun k => k < w1.heap.size) w1 := ⟨⟨[], BoxRow.new (boxed_more HH.out.1 hm1), rfl, fun j hj => by simp [snt] at hj⟩, b5, hA1, fun j hj => by rw [hs1]; exact hj, by rw [hs1]; exact Nat.le_refl _⟩
  rw [hw1]
  clear hw1 hwa b5 hsa HH
  refine range_set rfl h1 (gf := 70) (lb := #[.pointer (some ⟨w.heap.size + 1, 0, none⟩)]) rfl trivial (enters_of Try.func70 (by kernel_rfl) rfl)
    hseq (by omega) hA1 (fun _ => rfl)
    (fun pre E V => AlI w l (snt (L.take pre.length)) E V)
    (fun _ _ _ _ => False)
    (fun s E A A' h k => h.stay k)
    (fun _ _ _ _ _ h _ => h)
    (fun _ _ _ h => h.bs) st1
    (fun x => { tmps := #[.string (bs l), undef, .slice none 0 0, .pointer (some ⟨w.heap.size, 0, none⟩), undef, .string (bs x.2), undef, .string (bs l), .func (.func 70) #[] #[.pointer (some ⟨w.heap.size + 1, 0, none⟩)], .int .i64 x.1, .string (bs x.2), undef, undef, undef, undef, undef, undef, undef, undef, undef, undef], defers := [] }) ?assign ?body ?done ?stop
  case assign =>
    intro l2 x V K' hK'
    gi_wp2
    exact hK'
  case body =>
    rintro l2 pre ⟨x1, x⟩ V E ⟨c, hc, hSp⟩ st hwE hlw hszV hlenN
    obtain ⟨rfl, hx⟩ := numL_nextQ hSp
    clear hSp
    obtain ⟨rfl, rfl⟩ := Prod.mk.inj hx
    have hd : 1 ≤ n - 1 - 1 := by omega
    obtain ⟨k, hk⟩ : ∃ k, pre.length = k := ⟨_, rfl⟩
    have HL : Hid (∀ x : Int × List UInt8, (pre ++ [x]).length = k + 1) := Hid.mk fun x => by rw [List.length_append, List.length_singleton, hk]
    rw [hk] at st hlenN hc ⊢
    have hxl : (L.getD k []).length ≤ 1000000 := by
      have := HLs.out (L.getD k []) (by rw [List.getD_eq_getElem?_getD, List.getElem?_eq_getElem (by omega)]; simp)
      rw [List.length_nil, Nat.zero_add] at this; omega
    have hsn := HSN.out k (by omega)
    clear hk hx hseq hm1 hA1 st1
    obtain ⟨x, hx⟩ : ∃ x, L.getD k [] = x := ⟨_, rfl⟩
    rw [hx] at hxl hsn ⊢
    clear hx
    have hslen : (snt (L.take k)).length ≤ 1000001 := by have h2 := snt_len (L.take k); have h3 := List.length_take_le k L; omega
    by_cases hw0 : wordsOf x = []
    · rw [if_pos hw0] at hsn
      have HS := Hid.mk (And.intro hsn st)
      clear hsn st
      gi_wp2_with (refine ⟨trivial, ?_⟩; gi_at_call 60; refine (CallsIn.inRound l2 (tk_words _ (by omega) x hxl _)).mono ?_; rintro e w2 ⟨v2, rfl, hG2⟩; rw [hw0] at hG2; obtain ⟨a2, c2, rfl⟩ := hG2.shape; have H2 := Hid.mk hG2.more; clear hG2)
      refine ⟨_, Turn.of_more H2.out, ?_⟩
      dsimp only
      rw [HL.out, HS.out.1]
      exact HS.out.2.later H2.out hwE
    · rw [if_neg hw0] at hsn
      have HS := Hid.mk (And.intro hsn st)
      have hpos : 0 < (wordsOf x).length := List.length_pos_iff.2 hw0
      obtain ⟨ws, hws⟩ : ∃ ws, wordsOf x = ws := ⟨_, rfl⟩
      rw [hws] at HS hpos
      obtain ⟨K, hK⟩ : ∃ K, ws.length = K := ⟨_, rfl⟩
      have hKpos : (0 : Int) < (K : Int) := by omega
      have HW := Hid.mk (And.intro hws hK)
      clear hsn st hw0 hpos hws hK
      gi_wp2_with (first
        | (refine ⟨trivial, ?_⟩; gi_at_call 60; refine (CallsIn.inRound l2 (tk_words _ (by omega) x hxl _)).mono ?_; rintro e w2 ⟨v2, rfl, hG2⟩; rw [HW.out.1] at hG2; obtain ⟨a2, c2, rfl⟩ := hG2.shape; have H2 := Hid.mk hG2; clear hG2; have hst2 := HS.out.2.later H2.out.more hwE; have H3 := Hid.mk hst2; obtain ⟨vs, ⟨v, hb, hrow, hv⟩, hvl, hin⟩ := hst2.row; obtain ⟨av, cv, rfl⟩ := wshape_of hrow; rw [HW.out.2]; have c3 := hb.cell; have HV := Hid.mk (And.intro hb (And.intro hrow (And.intro hv (And.intro hvl hin)))); clear hst2 hb hrow hv hvl hin)
        | (gi_at_builtin; refine wpListIn_append_own_at _ rfl (.tmp 16) (.tmp 18) 66 rfl w.heap.size 22 i0 (.slice none 0 0) 1 24 Try.underlying66 hi hz0 hz1 hz2 rfl (by decide) _ _ _ rfl (HV.out.2.1.alloc _) ⟨w2.heap.size, 0, none⟩ 1 1 [.slice a2 K c2] rfl rfl (one_cell _ _ _) (one_slice _ _ _) (by have := HV.out.2.2.2.1; unfold maxLen; omega) (by have := HV.out.2.2.2.1; omega) (by have := H3.out.sz; simp; omega) ?_))
      intro v4 w4 hown4 hg4 _ hat4
      obtain ⟨hb, hrow, hv, hvl, hin⟩ := HV.out
      have hst2 := H3.out
      obtain ⟨hB4, hrow4, htu4, hbx4⟩ := BoxRow.app (lo := w.heap.size) (top := w.heap.size + 1 + 1) hb hv (by omega) hst2.sz (hst2.low _ (by omega)) (Nat.le_refl _) (more_alloc w2 (.cells #[.slice a2 K c2] 22)) hown4 hg4 (by rcases hat4 with h | h; exact .inl h; exact .inr (by rw [World.size_alloc]; exact h))
      have hm4 := Below.trans hst2.more (htu4.below hst2.more.size)
      have b5 := hbx4 _ _ _ hst2.bs (by omega) (by omega)
      have d3 := hB4.cell
      have g3 := hB4.frozen
      have hnew : SIn (fun k => E k ∨ (V.heap.size ≤ k ∧ k < w2.heap.size)) (w.heap.size + 1 + 1) w2 (.slice a2 K c2) ws := by
        rw [← HW.out.2]
        exact ⟨_, H2.out.row, fun j hj => ⟨.inr (H2.out.row.lt j hj), Nat.le_trans HS.out.2.sz (H2.out.row.lt j hj).1⟩⟩
      have HO := Hid.mk (And.intro ((Turn.of_more H2.out.more).trans htu4) (show AlI w l (snt (L.take k) ++ [ws]) (fun k => (E k ∨ (V.heap.size ≤ k ∧ k < w2.heap.size)) ∨ (w2.heap.size ≤ k ∧ k < w4.heap.size)) (w4.setCell ⟨w.heap.size, 0, none⟩ v4) from
        ⟨⟨vs ++ [.slice a2 K c2], hrow4, by simp [hvl], fun j hj => by
          rw [List.length_append, List.length_singleton] at hj
          by_cases hjs : j < (snt (L.take k)).length
          · rw [List.getD_eq_getElem?_getD, List.getElem?_append_left (by omega), ← List.getD_eq_getElem?_getD, List.getD_eq_getElem?_getD (l := snt (L.take k) ++ [ws]), List.getElem?_append_left hjs, ← List.getD_eq_getElem?_getD]
            exact (hin j hjs).app hrow (more_alloc _ _) hg4 (by omega) fun _ => .inl
          · obtain rfl : j = (snt (L.take k)).length := by omega
            rw [List.getD_eq_getElem?_getD, List.getElem?_append_right (by omega), List.getD_eq_getElem?_getD (l := snt (L.take k) ++ [ws]), List.getElem?_append_right (Nat.le_refl _), hvl, Nat.sub_self]
            exact hnew.app hrow (more_alloc _ _) hg4 (by omega) fun _ => .inl⟩, b5, hm4, fun j hj => .inl (hst2.low j hj), Nat.le_trans hst2.sz htu4.size⟩))
      obtain ⟨a4, c4, rfl⟩ := wshape_of hown4
      clear hb hrow hv hvl hin hst2 hB4 hrow4 htu4 hbx4 hm4 b5 hnew hown4 hg4 hat4
      gi_wp2
      refine ⟨_, HO.out.1, ?_⟩
      dsimp only
      rw [HL.out, HS.out.1]
      exact HO.out.2
  case done =>
    rintro D ys E V hD hED rfl st hwE _ hKD
    rw [numL_len, List.take_length] at st
    obtain ⟨vs, ⟨v, h2, h3, h4⟩, h5, h6⟩ := st.row
    have c3 := h2.cell
    have HS := Hid.mk (And.intro st (And.intro h3 (And.intro h4 (And.intro h5 h6))))
    clear st h2 h3 h4 h5 h6
    gi_wp2
    refine leaves_set (C := E) (B := w1.heap.size) (.cons (by omega) hKD (fun _ h => by cases h) .nil) (one_mark hED) fun w' hw' _ => ?_
    refine ⟨v, by simp [results, Try.f37, go_sem], v, rfl, ?_⟩
    rw [HA.out]
    refine ⟨⟨vs, ?_, fun j hj => ((HS.out.2.2.2.2 j hj).stay hw').rd⟩, (HS.out.1.stay hw').more⟩
    rw [← HS.out.2.2.2.1]
    exact own_stay HS.out.2.1 (fun j hj => (HS.out.2.2.1 j hj).1) hw'
  case stop =>
    rintro D cc pre E V hD hED _ h _ _ _
    exact h.elim

end Go.Proofs.Ytiiflegfbieblaa
