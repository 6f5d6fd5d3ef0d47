/-
  TableGoes, walked: the texts, gone over twice.
-/
import Derived.Test.YteaakfkpbejnoaaInLawB
import Derived.Test.YteaakfkpbejnoaaRangeApp
namespace Go.Proofs.Yteaakfkpbejnoaa
open Go.RowKit Go.Shelf
attribute [local go_sem] Oper.semAt_some

theorem eql_func_nil {P : Program} (w : World) (t : TypeId) (ps rs : Array TypeId) (v : Bool) (fn : Fn) (xs ys : Array Value) (h : P.underlying t = some (.func ps rs v)) :
    (binOp .eql t (.func fn xs ys) .nilFunc).run P w = .ok (.bool false) w := by
  have e : ∀ d, (Op.equalIn (d + 1) t (.func fn xs ys) .nilFunc).run P w = .ok false w := fun d => by simp [Op.equalIn, run_underlying h]
  have e := e 9999
  simp only [binOp]
  simp [Op.equal, Op.maxDepth, e]

theorem boxes2 (w : World) (stop : Int) (w3 : World) (hw3 : (w.alloc (.cells #[.int .i64 stop] 3)).alloc (.cells #[.bool false] 4) = w3) :
    More w w3 ∧ Boxed w3 w.heap.size 3 (.int .i64 stop) ∧ Boxed w3 (w.heap.size + 1) 4 (.bool false) ∧ w3.heap.size = w.heap.size + 1 + 1 := by
  refine ⟨?_, ?_, ?_, ?_⟩
  · rw [← hw3]; exact ((Below.refl _ w).alloc (Nat.le_refl _) _).alloc (by simp) _
  · rw [← hw3]; exact (Boxed.new w 3 (.int .i64 stop)).alloc _
  · have := Boxed.new (w.alloc (.cells #[.int .i64 stop] 3)) 4 (.bool false)
    rw [World.size_alloc] at this
    rw [← hw3]; exact this
  · rw [← hw3]; simp

/-- The way out: true is stored; both loops' blocks are shut. -/
theorem law_end2 (n : Nat) (w V : World) (D D2 : Nat) (hD : w.heap.size + 1 < D) (hD2 : w.heap.size + 1 < D2) (hne : D ≠ D2) {tmps : Array Value}
    (br : Boxed V (w.heap.size + 1) 4 (.bool false)) (hV : Below w.heap.size w V) (hK : V.heap[D]? = some (.deferred (some []))) (hK2 : V.heap[D2]? = some (.deferred (some []))) (h6 : tmps[4]?.getD undef = .pointer (some ⟨w.heap.size + 1, 0, none⟩)) :
    LeavesInM Fence.wide n Try.prog Try.f5 tmps (fun e W' => e = .returned (.bool true) ∧ Below w.heap.size w W') [{ target := .collected D2, args := #[] }, { target := .collected D, args := #[] }] .returning (V.setCell ⟨w.heap.size + 1, 0, none⟩ (.bool true)) := by
  have br' := br.set (.bool true)
  have hV' : Below w.heap.size w (V.setCell ⟨w.heap.size + 1, 0, none⟩ (.bool true)) := hV.setCell (p := ⟨w.heap.size + 1, 0, none⟩) (by simp) _
  have hK' := (KeepsOthers.setCell V ⟨w.heap.size + 1, 0, none⟩ (.bool true)).same D _ hK rfl
  have hK2' := (KeepsOthers.setCell V ⟨w.heap.size + 1, 0, none⟩ (.bool true)).same D2 _ hK2 rfl
  generalize V.setCell ⟨w.heap.size + 1, 0, none⟩ (.bool true) = Z at *
  refine leaves_marks (B := w.heap.size + 1 + 1) (.cons (by omega) hK2' (fun d h e => by
    rcases List.mem_cons.1 h with rfl | h
    · injection e with e; exact hne e
    · cases h) (.cons (by omega) hK' (fun _ h => by cases h) .nil)) fun w' hw' => ?_
  have br3 : Boxed w' (w.heap.size + 1) 4 (.bool true) := (hw'.block _ (by omega)).trans br'
  have hc := br3.cell
  refine ⟨.bool true, ?_, rfl, Below.trans hV' (hw'.mono (by omega))⟩
  simp [results, Try.f5, go_sem, h6, hc]

/-- A box of a list's is written: table and list stay. -/
theorem Two.box {w W : World} {b tW : Nat} {wv u x : Value} {ts : List (List UInt8)} {D : Nat → Prop} (h : Two w b wv ts D W) (hB : Boxed W tW 22 u) (hD : ¬ D tW) (ht : w.heap.size ≤ tW) : Two w b wv ts D (W.setCell ⟨tW, 0, none⟩ x) := by
  have hst : Stay (fun j => j ≠ tW) W (W.setCell ⟨tW, 0, none⟩ x) := (Stay.refl _ _).setCell (p := ⟨tW, 0, none⟩) (fun h => h rfl) _
  refine ⟨h.tab.stay hst (fun j hj e => hD (e ▸ hj)), ?_, h.off, h.more.setCell (p := ⟨tW, 0, none⟩) ht _, h.new⟩
  obtain ⟨B, hR⟩ := h.row
  exact ⟨B, own_stay hR (fun j hj (e : j = tW) => wown_ne hB hR (by decide) (by rw [← e]; exact hj)) hst⟩
theorem Two.shift {w w0 W : World} {b : Nat} {wv : Value} {ts : List (List UInt8)} {D : Nat → Prop} (h : Two w b wv ts D W) (hm : More w0 w) : Two w0 b wv ts D W := ⟨h.tab, h.row, h.off, More.trans hm h.more, fun j hj => Nat.le_trans hm.size (h.new j hj)⟩

theorem Off.boxed {w w' : World} {D : Nat → Prop} {B : Nat} {t : TypeId} {v : Value} (h : Off D w w') (hb : Boxed w B t v) (hn : ¬ D B) : Boxed w' B t v := (h.block B hb.lt hn).trans hb
/-- Between two rounds of the law's first loop. -/
structure GoI (w : World) (stop : Int) (b tW : Nat) (ls : List (List UInt8)) (k : Nat) (D : Nat → Prop) (wv : Value) (wr : World) : Prop where
  two : Two w b wv (upTo ls k) D wr
  stp : Boxed wr w.heap.size 3 (.int .i64 stop)
  res : Boxed wr (w.heap.size + 1) 4 (.bool false)
  box : Boxed wr tW 22 wv
  low : ∀ j, D j → w.heap.size + 1 < j
  off : ¬ D tW

theorem GoI.next {w wr w1 w2 : World} {stop : Int} {b tW k : Nat} {ls ts : List (List UInt8)} {D D2 : Nat → Prop} {wv v2 : Value} {x : List UInt8} (h : GoI w stop b tW ls k D wv wr) (hts : upTo ls k = ts) (hus : upTo ls (k + 1) = putN ts x) (hw : w.heap.size + 1 < tW) (hT1 : Tab w1 D2 b (putN ts x)) (hO1 : Off D wr w1) (hD2 : ∀ j, D2 j → D j ∨ wr.heap.size ≤ j)
    (hS2 : SRd w2 v2 (putN ts x)) (hm2 : More w1 w2) (hb2 : ∀ j, v2.ownBlock = some j → wv.ownBlock = some j ∨ w1.heap.size ≤ j) : GoI w stop b tW ls (k + 1) D2 v2 (w2.setCell ⟨tW, 0, none⟩ v2) := by
  have h2 := h.two
  rw [hts] at h2
  have h3 := h2.put' hT1 hO1 hD2 hS2 hm2 hb2
  have hbx := boxed_more (hO1.boxed h.box h.off) hm2
  have hlt := h.box.lt
  have hof : ¬ D2 tW := fun hd => (hD2 tW hd).elim h.off (fun e => by omega)
  have hs1 := boxed_more (hO1.boxed h.stp (fun hd => by have := h.low _ hd; omega)) hm2
  have hs2 := boxed_more (hO1.boxed h.res (fun hd => by have := h.low _ hd; omega)) hm2
  have hl1 := h.stp.lt
  have hl2 := h.res.lt
  exact ⟨by rw [hus]; exact h3.box hbx hof (by omega), hs1.other (by omega) _, hs2.other (by omega) _, hbx.set _, fun j hj => (hD2 j hj).elim (h.low j) (fun e => by omega), hof⟩

set_option maxRecDepth 1000000 in
set_option maxHeartbeats 6400000 in
theorem goes (n : Nat) (hn : 20 ≤ n) (v : Value) (ls : List (List UInt8)) (stop : Int) (w : World) (ha : ARd w v ls) (hb : ls.length ≤ 100) (hl : ∀ x ∈ ls, x.length ≤ 281474976710656) :
    CallsIn Fence.wide n Try.prog 5 #[v, .int .i64 stop] w fun e W' => e = .returned (.bool true) ∧ More w W' := by
  have h1 : 1 ≤ n := by omega
  obtain ⟨ao, cap, rfl, hc⟩ := ha.opened
  obtain ⟨m, hm⟩ : ∃ m, ls.length = m := ⟨_, rfl⟩
  have HC := Hid.mk (And.intro hc (And.intro hl hm))
  rw [hm] at hb ⊢
  have hb' : ¬ (100 : Int) < (m : Int) := by omega
  clear hc ha hm hl
  obtain ⟨w3, hw3⟩ : ∃ w3, (w.alloc (.cells #[.int .i64 stop] 3)).alloc (.cells #[.bool false] 4) = w3 := ⟨_, rfl⟩
  obtain ⟨hM3, b0, b1, hs3⟩ := boxes2 w stop w3 hw3
  have H0 := Hid.mk (And.intro hM3 (And.intro b0 b1))
  have hnw := in_new w3
  rw [hs3] at hnw
  clear hM3 b0 b1
  refine callsIn_of_wp_marks Try.func5 rfl trivial ?_ rfl
  simp only [Try.ntmps5, List.size_toArray, List.length_cons, List.length_nil, Nat.reduceAdd, Nat.reduceSub, Array.replicate_succ, Array.replicate_zero, List.push_toArray, List.append_toArray, List.nil_append, List.cons_append]
  gi_wp2_with (refine ⟨trivial, ?_⟩; gi_at_call 7; refine (callsIn_wide.2 hnw).mono ?_; rintro e w4 ⟨rfl, hm4, D1, hT1, hD1⟩; have H1 := Hid.mk (And.intro hm4 (And.intro hT1 hD1)); clear hm4 hT1 hD1 hnw)
  obtain ⟨tW, htW⟩ : ∃ tW, w4.heap.size = tW := ⟨_, rfl⟩
  obtain ⟨wT, hwT⟩ : ∃ wT, w4.alloc (.cells #[.slice none 0 0] 22) = wT := ⟨_, rfl⟩
  have hst4 : w.heap.size + 1 + 1 ≤ tW := by have := H1.out.1.size; omega
  have h4T : More w4 wT := by rw [← hwT]; exact more_alloc _ _
  have bT : Boxed wT tW 22 (.slice none 0 0) := by rw [← hwT, ← htW]; exact Boxed.new _ _ _
  have hG0 : GoI w stop (w.heap.size + 1 + 1) tW ls 0 D1 (.slice none 0 0) wT := ⟨⟨by rw [upTo_zero]; exact H1.out.2.1.more h4T, ⟨0, World.ownsRow_nil _ _ _ _⟩, fun j hj => by simp [Value.ownBlock] at hj, More.trans H0.out.1 (More.trans H1.out.1 h4T), fun j hj => by have := H1.out.2.2 j hj; omega⟩,
    boxed_more H0.out.2.1 (More.trans H1.out.1 h4T), boxed_more H0.out.2.2 (More.trans H1.out.1 h4T), bT, fun j hj => by have := H1.out.2.2 j hj; omega, fun h => by have := H1.out.2.1.wi tW h; omega⟩
  have HG := Hid.mk hG0
  clear hG0 bT h4T hs3 hw3 H0 H1
  rw [htW]
  try rw [hwT]
  gi_loopw [7] (fun i wr => ∃ (k : Nat) (D : Nat → Prop) (wv : Value), k ≤ m ∧ i = .int .i64 k ∧ GoI w stop (w.heap.size + 1 + 1) tW ls k D wv wr) (fun i _ => m - (intOf i).toNat)
  case atStart => exact ⟨0, D1, _, Nat.zero_le _, rfl, HG.out⟩
  case round =>
    clear HG hwT htW
    obtain ⟨k, D, wv, hk, rfl, hG⟩ := hrel
    have htl := upTo_len ls k
    by_cases hlt : k < m
    · obtain ⟨g, o, rfl, hg, hcell⟩ := HC.out.1 k (by rw [HC.out.2.2]; exact hlt)
      have hxl := HC.out.2.1 (ls.getD k []) (getD_mem (by rw [HC.out.2.2]; exact hlt))
      have hus := upTo_succ ls (k := k) (by rw [HC.out.2.2]; exact hlt)
      obtain ⟨x, hx⟩ : ∃ x, ls.getD k [] = x := ⟨_, rfl⟩
      obtain ⟨ts, hts⟩ : ∃ ts, upTo ls k = ts := ⟨_, rfl⟩
      have h2 := hG.two
      rw [hx] at hcell hxl hus
      rw [hts] at h2 hus htl
      have cA := (h2.more.cell hg).trans hcell
      have hP := in_Put 16 (Nat.le_refl _) _ D (w.heap.size + 1 + 1) ts x h2.tab (by omega) hxl
      obtain ⟨tv, htv⟩ : ∃ tv, told ts x = tv := ⟨_, rfl⟩
      rw [htv] at hP
      obtain ⟨aw, cw, rfl⟩ := h2.row.shape
      have bW := hG.box
      have H2 := Hid.mk (And.intro h2 (And.intro hcell (And.intro hg (And.intro hus (And.intro hG hts)))))
      have hoff := hG.off
      clear h2 hx hts hus hcell htv hG
      gi_wp2_with (refine ⟨trivial, ?_⟩; gi_at_call 10; refine (callsIn_wide.2 (callsIn_wide.1 hP)).mono ?_; rintro e w1 ⟨rfl, D2, hT1, hO1, hD2⟩; have hm1 := More.trans' H2.out.1.more hO1 H2.out.1.new; have cB := (hm1.cell H2.out.2.2.1).trans H2.out.2.1; have cW := (hO1.boxed bW hoff).cell; have HT1 := Hid.mk (And.intro hT1 (And.intro hO1 hD2)); clear hT1 hO1 hD2 hm1 hP cA)
      have hrp := fun q => rf_put _ ts x (w1.drewN q) ((HT1.out.2.1.srd H2.out.1.row H2.out.1.off).more (More.drewN w1 q)) (by omega)
      have c1 : ∀ q, (w1.drewN q).cell? ⟨tW, 0, none⟩ = some (.slice aw ts.length cw) := fun q => cW
      have c2 : ∀ q, (w1.drewN q).cell? ⟨g, o + k, none⟩ = some (.string (bs x)) := fun q => cB
      have bW1 := HT1.out.2.1.boxed bW hoff
      clear cW cB bW
      refine region_detN 5 32 2 [.slice aw ts.length cw, .slice (some ⟨g, o, none⟩) m cap, .int .i64 k, .pointer (some ⟨g, o + k, none⟩), .string (bs x)]
        { tmps := #[.slice (some ⟨g, o, none⟩) m cap, .int .i64 stop, undef, .pointer (some ⟨w.heap.size, 0, none⟩), .pointer (some ⟨w.heap.size + 1, 0, none⟩), .pointer (some ⟨w.heap.size + 1 + 1, 0, none⟩), .pointer (some ⟨tW, 0, none⟩), .int .i64 k, undef, undef, undef, undef, undef, undef, undef, .slice (some ⟨g, o, none⟩) m cap, .int .i64 m, .bool false, undef, .pointer (some ⟨w.heap.size + 1 + 1, 0, none⟩), .int .i64 k, .slice (some ⟨g, o, none⟩) m cap, .int .i64 m, .bool true, u24, u25, .pointer (some ⟨w.heap.size + 1 + 1, 0, none⟩), .slice (some ⟨g, o, none⟩) m cap, .int .i64 k, .pointer (some ⟨g, o + k, none⟩), .string (bs x), tv, .slice aw ts.length cw, .slice (some ⟨g, o, none⟩) m cap, .int .i64 k, .pointer (some ⟨g, o + k, none⟩), .string (bs x), u37, undef, undef, undef, undef, undef, undef, undef, undef, undef, undef, undef, undef, undef, undef, undef, undef, undef, undef, undef, undef, undef, undef, undef, undef, undef, undef, undef, undef, undef, undef, undef, undef, undef, undef, undef, undef, undef, undef, undef, undef, undef, undef, undef, undef, undef, undef, undef, undef, undef, undef, undef, undef, undef, undef, undef, undef, undef, undef, undef, undef, undef, undef, undef, undef, undef, undef, undef, undef], defers := [] }
        (fun w' => ∃ q, w' = w1.drewN q) (by kernel_rfl) (detN_of (by kernel_rfl)) (by kernel_rfl) (Nat.le_of_ble_eq_true (by kernel_rfl)) ⟨1, rfl⟩ ?step ?fin
      case step =>
        rintro e he w' ⟨q, rfl⟩
        have c1 := c1 q
        have c2 := c2 q
        rcases (show e = 0 ∨ e = 1 ∨ e = 2 ∨ e = 3 ∨ e = 4 by omega) with rfl | rfl | rfl | rfl | rfl
        all_goals
          refine wpOpIn_step rfl (fun K hK => ?_)
          go_simp
          exact hK _ _ ⟨rfl, rfl, q, rfl⟩
      case fin =>
        rintro w' ⟨q, rfl⟩
        have hrq := hrp q
        clear hrp c1 c2
        refine wpOpIn_step rfl (fun K hK => ?_)
        go_simp
        refine ⟨trivial, (callsIn_wide.2 hrq).mono ?_⟩
        rintro e w2 ⟨v2, rfl, hS2, hm2, hb2⟩
        refine hK _ _ ?_
        obtain ⟨a2, c2, rfl⟩ := hS2.shape
        clear hK hrq
        have hm3 := More.trans (More.drewN w1 q) hm2
        have hG2 := H2.out.2.2.2.2.1.next H2.out.2.2.2.2.2 H2.out.2.2.2.1 (by omega) HT1.out.1 HT1.out.2.1 HT1.out.2.2 hS2 hm3 hb2
        have bW2 := boxed_more bW1 hm3
        have cW := bW2.cell
        have fW := bW2.frozen
        have HG2 := Hid.mk hG2
        clear hG2 hm3 hm2 hS2 hb2 bW2 bW1
        refine wpOpIn_step rfl (fun K hK => ?_)
        go_simp
        refine hK _ _ ?_
        clear hK
        unfold tailIn
        gi_wp2
        go_roundw
        case rel => exact ⟨k + 1, D2, _, by omega, by go_num, HG2.out⟩
        case measure => simp [intOf]; omega
    · obtain rfl : k = m := by omega
      have hmem : ∀ y ∈ upTo ls k, y.length ≤ 281474976710656 := fun y hy => HC.out.2.1 y (upTo_mem ls k y hy)
      obtain ⟨ts, hts⟩ : ∃ ts, upTo ls k = ts := ⟨_, rfl⟩
      have h2 := hG.two
      rw [hts] at h2 htl hmem
      obtain ⟨aw, cw, rfl⟩ := h2.row.shape
      have HI := Hid.mk (And.intro h2 hG)
      clear h2 hG hmem hts
      gi_wp2_with (refine ⟨trivial, ?_⟩; gi_at_call 16; refine (all_call _ _ _).mono ?_; rintro e w' ⟨rfl, hw'⟩; subst w')
      rw [eql_func_nil _ 38 _ _ _ _ _ _ Try.underlying38]
      gi_wp2
      obtain ⟨tB, htB⟩ : ∃ tB, wr.heap.size = tB := ⟨_, rfl⟩
      rw [htB]
      obtain ⟨wB, hwB⟩ : ∃ wB, wr.alloc (.cells #[.pointer (some ⟨w.heap.size + 1 + 1, 0, none⟩)] 24) = wB := ⟨_, rfl⟩
      have hRB : More wr wB := by rw [← hwB]; exact more_alloc _ _
      have hsB : wB.heap.size = tB + 1 := by rw [← hwB]; simp [htB]
      have bP : Boxed wB tB 24 (.pointer (some ⟨w.heap.size + 1 + 1, 0, none⟩)) := by rw [← hwB, ← htB]; exact Boxed.new _ _ _
      rw [hwB]
      have hwBm := More.trans HI.out.1.more hRB
      have a0 := boxed_more HI.out.2.stp hRB
      have a1 := boxed_more HI.out.2.res hRB
      have a2 := boxed_more HI.out.2.box hRB
      have hrd := HI.out.1.row.more hRB
      have hlW := HI.out.2.box.lt
      rw [htB] at hlW
      obtain ⟨vk, vh, vd, f, hTb, _, _⟩ := HI.out.1.tab
      have kc := (hTb.more hRB).cells.1
      have krd : SRd wB vk ts := ⟨0, (hTb.more hRB).keys⟩
      have hbl : w.heap.size + 1 + 1 < tB := by rw [← htB]; exact hTb.wi _ hTb.inB
      have hseq := fun lo W9 => all_in (n - 1) (by omega) tB (w.heap.size + 1 + 1) lo vk ts (by omega) W9
      have hKP : ∀ V, More wB V → AllK tB (w.heap.size + 1 + 1) vk ts V := fun V h => ⟨boxed_more bP h, (h.cell (by show w.heap.size + 1 + 1 < _; omega)).trans kc, krd.more h⟩
      have HK := Hid.mk hKP
      obtain ⟨N, hN⟩ : ∃ N, ts.length = N := ⟨_, rfl⟩
      have hop := hrd.opened
      rw [hN] at a2 hop htl hseq
      have HO := Hid.mk hop
      have hN2 : N ≤ 100 := by omega
      have hW0 : More wB (wB.alloc (.cells #[.int .i64 0] 3)) := more_alloc _ _
      have n0 : Boxed (wB.alloc (.cells #[.int .i64 0] 3)) (tB + 1) 3 (.int .i64 0) := by
        have := Boxed.new wB 3 (.int .i64 0)
        rwa [hsB] at this
      have hsW0 : (wB.alloc (.cells #[.int .i64 0] 3)).heap.size = tB + 2 := by simp [hsB]
      have hsw1 : (wB.alloc (.cells #[.int .i64 0] 3)).heap.size ≤ tB + 2 := by omega
      have hsw2 : tB + 2 ≤ (wB.alloc (.cells #[.int .i64 0] 3)).heap.size := by omega
      have hsb1 : wB.heap.size ≤ tB + 1 := by omega
      have hsb2 : tB + 1 ≤ wB.heap.size := by omega
      clear hsW0
      generalize wB.alloc (.cells #[.int .i64 0] 3) = W0 at hW0 n0 hsw1 hsw2 ⊢
      clear hsB htB HI hwB hRB bP hop hrd hN hTb kc krd hKP HC
      refine range_set rfl h1 (gf := 22) (lb := #[.pointer (some ⟨tB, 0, none⟩)]) rfl trivial (enters_of Try.func22 (by kernel_rfl) rfl)
        (hseq wB.heap.size wB) hW0.size hW0 (fun _ => rfl)
        (fun pre E V => Boxed V (tB + 1) 3 (.int .i64 pre.length) ∧ More wB V ∧ (∀ j, j < W0.heap.size → E j))
        (fun _ _ _ _ => False)
        (fun s E A A' h k => ⟨k.boxed h.1 (h.2.2 _ (by omega)), Below.trans h.2.1 (k.below fun j hj => h.2.2 j (by omega)), h.2.2⟩)
        (fun _ _ _ _ _ h _ => h)
        (fun _ _ _ h => HK.out _ h.2.1) ⟨n0, hW0, fun _ h => h⟩
        (fun x => { tmps := #[.slice ao k cap, .int .i64 stop, undef, .pointer (some ⟨w.heap.size, 0, none⟩), .pointer (some ⟨w.heap.size + 1, 0, none⟩), .pointer (some ⟨w.heap.size + 1 + 1, 0, none⟩), .pointer (some ⟨tW, 0, none⟩), .int .i64 k, .func (.func 22) #[] #[.pointer (some ⟨tB, 0, none⟩)], .pointer (some ⟨tB + 1, 0, none⟩), .int .i64 x.1, .string (bs x.2), undef, undef, undef, .slice ao k cap, .int .i64 k, .bool false, undef, .pointer (some ⟨w.heap.size + 1 + 1, 0, none⟩), .int .i64 k, .slice ao k cap, .int .i64 k, .bool false, u24, u25, u26, u27, u28, u29, u30, u31, u32, u33, u34, u35, u36, u37, .pointer (some ⟨w.heap.size + 1 + 1, 0, none⟩), .func (.func 22) #[] #[.pointer (some ⟨tB, 0, none⟩)], .func (.func 22) #[] #[.pointer (some ⟨tB, 0, none⟩)], .bool false, .func (.func 22) #[] #[.pointer (some ⟨tB, 0, none⟩)], .int .i64 x.1, .string (bs x.2), undef, undef, undef, undef, undef, undef, undef, undef, undef, undef, undef, undef, undef, undef, undef, undef, undef, undef, undef, undef, undef, undef, undef, undef, undef, undef, undef, undef, undef, undef, undef, undef, undef, undef, undef, undef, undef, undef, undef, undef, undef, undef, undef, undef, undef, undef, undef, undef, undef, undef, undef, undef, undef, undef, undef, undef, undef, undef, undef, undef, undef], defers := [] }) ?assign ?body ?done ?stop
      case assign =>
        intro l2 x V K' hK'
        gi_wp2
        exact hK'
      case body =>
        rintro l2 pre ⟨x1, x⟩ V E ⟨c, hc, hSp⟩ ⟨bn, hM, hE⟩ hwE hlw hszV hlenN
        obtain ⟨_, hx, hpc⟩ := numL_next hSp
        clear hSp
        obtain ⟨rfl, rfl⟩ := Prod.mk.inj hx
        have hd : 1 ≤ n - 1 - 1 := by omega
        obtain ⟨gS, cS, heq, hgS, hcS⟩ := HO.out (by omega)
        simp only [Value.slice.injEq, true_and] at heq
        obtain ⟨rfl, rfl⟩ := heq
        have c2 := (boxed_more a2 hM).cell
        have cn := bn.cell
        have fnn := bn.frozen
        obtain ⟨k2, hk2⟩ : ∃ k2, pre.length = k2 := ⟨_, rfl⟩
        rw [hk2] at bn cn hlenN hpc ⊢
        have ck : V.cell? ⟨gS, k2, none⟩ = some (.string (bs (ts.getD k2 []))) := (hM.cell hgS).trans (hcS k2 hlenN)
        clear hx hcS
        obtain ⟨x, hx⟩ : ∃ x, ts.getD k2 [] = x := ⟨_, rfl⟩
        rw [hx] at ck ⊢
        have HR := Hid.mk (show Turn wB.heap.size E E V (V.setCell ⟨tB + 1, 0, none⟩ (.int .i64 ((k2 : Int) + 1))) ∧ Boxed (V.setCell ⟨tB + 1, 0, none⟩ (.int .i64 ((k2 : Int) + 1))) (tB + 1) 3 (.int .i64 ((pre ++ [((k2 : Int), x)]).length : Nat)) ∧ More wB (V.setCell ⟨tB + 1, 0, none⟩ (.int .i64 ((k2 : Int) + 1))) from
          ⟨(Turn.refl _ _ _).setCell (p := ⟨tB + 1, 0, none⟩) (by show wB.heap.size ≤ tB + 1; omega) (hE _ (by show tB + 1 < _; omega)) _, by have h := bn.set (.int .i64 ((k2 : Int) + 1)); rw [List.length_append, List.length_singleton, hk2]; simpa using h, hM.setCell (p := ⟨tB + 1, 0, none⟩) (by show wB.heap.size ≤ tB + 1; omega) _⟩)
        clear bn hx hk2 a2 hM hseq hpc
        gi_wp2
        exact ⟨E, HR.out.1, HR.out.2.1, HR.out.2.2, hE⟩
      case done =>
        rintro D0 ys E V1 hD0 hED rfl ⟨bn, hM, hE⟩ hwE hlow hKD
        rw [numL_len] at bn
        have hDlt := (Array.getElem?_eq_some_iff.1 hKD).1
        gi_wp2
        have hW1 : More V1 (V1.alloc (.cells #[.int .i64 0] 3)) := more_alloc _ _
        have m0 : Boxed (V1.alloc (.cells #[.int .i64 0] 3)) V1.heap.size 3 (.int .i64 0) := Boxed.new _ _ _
        have hsW1 : (V1.alloc (.cells #[.int .i64 0] 3)).heap.size = V1.heap.size + 1 := by simp
        have hV1 := hM.size
        have hsx1 : (V1.alloc (.cells #[.int .i64 0] 3)).heap.size ≤ V1.heap.size + 1 := by omega
        have hsx2 : V1.heap.size + 1 ≤ (V1.alloc (.cells #[.int .i64 0] 3)).heap.size := by omega
        clear hsW1
        generalize V1.alloc (.cells #[.int .i64 0] 3) = W1 at hW1 m0 hsx1 hsx2 ⊢
        refine range_set rfl h1 (gf := 22) (lb := #[.pointer (some ⟨tB, 0, none⟩)]) rfl trivial (enters_of Try.func22 (by kernel_rfl) rfl)
          (hseq V1.heap.size V1) hW1.size hW1 (fun _ => rfl)
          (fun pre E V => Boxed V V1.heap.size 3 (.int .i64 pre.length) ∧ More V1 V ∧ ¬ (0 < stop ∧ stop ≤ pre.length) ∧ (∀ j, j < W1.heap.size → E j))
          (fun c pre E V => (c = .exit 4 ∧ 0 < stop ∧ (pre.length : Int) = stop) ∧ Boxed V V1.heap.size 3 (.int .i64 pre.length) ∧ More V1 V ∧ (∀ j, j < W1.heap.size → E j))
          (fun s E A A' h k => ⟨k.boxed h.1 (h.2.2.2 _ (by omega)), Below.trans h.2.1 (k.below fun j hj => h.2.2.2 j (by omega)), h.2.2.1, h.2.2.2⟩)
          (fun c s E A A' h k => ⟨h.1, k.boxed h.2.1 (h.2.2.2 _ (by omega)), Below.trans h.2.2.1 (k.below fun j hj => h.2.2.2 j (by omega)), h.2.2.2⟩)
          (fun _ _ _ h => HK.out _ (More.trans hM h.2.1)) ⟨m0, hW1, by simp, fun _ h => h⟩
          (fun x => { tmps := #[.slice ao k cap, .int .i64 stop, undef, .pointer (some ⟨w.heap.size, 0, none⟩), .pointer (some ⟨w.heap.size + 1, 0, none⟩), .pointer (some ⟨w.heap.size + 1 + 1, 0, none⟩), .pointer (some ⟨tW, 0, none⟩), .int .i64 k, .func (.func 22) #[] #[.pointer (some ⟨tB, 0, none⟩)], .pointer (some ⟨tB + 1, 0, none⟩), undef, undef, .pointer (some ⟨V1.heap.size, 0, none⟩), .int .i64 x.1, .string (bs x.2), .slice ao k cap, .int .i64 k, .bool false, undef, .pointer (some ⟨w.heap.size + 1 + 1, 0, none⟩), .int .i64 k, .slice ao k cap, .int .i64 k, .bool false, u24, u25, u26, u27, u28, u29, u30, u31, u32, u33, u34, u35, u36, u37, .pointer (some ⟨w.heap.size + 1 + 1, 0, none⟩), .func (.func 22) #[] #[.pointer (some ⟨tB, 0, none⟩)], .func (.func 22) #[] #[.pointer (some ⟨tB, 0, none⟩)], .bool false, .func (.func 22) #[] #[.pointer (some ⟨tB, 0, none⟩)], undef, undef, undef, undef, undef, undef, undef, undef, undef, undef, undef, undef, undef, undef, undef, undef, undef, undef, undef, undef, undef, .func (.func 22) #[] #[.pointer (some ⟨tB, 0, none⟩)], .int .i64 x.1, .string (bs x.2), undef, undef, undef, undef, undef, undef, undef, undef, undef, undef, undef, undef, undef, undef, undef, undef, undef, undef, undef, undef, undef, undef, undef, undef, undef, undef, undef, undef, undef, undef, undef, undef, undef, undef, undef, undef, undef, undef, undef], defers := [] }) ?assign2 ?body2 ?done2 ?stop2
        case assign2 =>
          intro l2 x V K' hK'
          gi_wp2
          exact hK'
        case body2 =>
          rintro l2 pre ⟨x1, x⟩ V E2 ⟨c, hc, hSp⟩ ⟨bm, hM2, hns, hE2⟩ hwE2 hlw2 hszV hlenN
          obtain ⟨_, hx, hpc⟩ := numL_next hSp
          clear hSp
          obtain ⟨rfl, rfl⟩ := Prod.mk.inj hx
          have hd : 1 ≤ n - 1 - 1 := by omega
          obtain ⟨gS, cS, heq, hgS, hcS⟩ := HO.out (by omega)
          simp only [Value.slice.injEq, true_and] at heq
          obtain ⟨rfl, rfl⟩ := heq
          have hMB := More.trans hM hM2
          have c0 := (boxed_more a0 hMB).cell
          have c2 := (boxed_more a2 hMB).cell
          have cm := bm.cell
          have fm := bm.frozen
          obtain ⟨k2, hk2⟩ : ∃ k2, pre.length = k2 := ⟨_, rfl⟩
          rw [hk2] at bm cm hlenN hns hpc ⊢
          have ck : V.cell? ⟨gS, k2, none⟩ = some (.string (bs (ts.getD k2 []))) := (hMB.cell hgS).trans (hcS k2 hlenN)
          clear hx hcS
          obtain ⟨x, hx⟩ : ∃ x, ts.getD k2 [] = x := ⟨_, rfl⟩
          rw [hx] at ck ⊢
          have b3 := bm.set (.int .i64 ((k2 : Int) + 1))
          have c3 := b3.cell
          have c03 := ((boxed_more a0 hMB).other (show w.heap.size ≠ V1.heap.size by omega) (.int .i64 ((k2 : Int) + 1))).cell
          have HR := Hid.mk (show (∀ lo, lo ≤ V1.heap.size → Turn lo E2 E2 V (V.setCell ⟨V1.heap.size, 0, none⟩ (.int .i64 ((k2 : Int) + 1)))) ∧ Boxed (V.setCell ⟨V1.heap.size, 0, none⟩ (.int .i64 ((k2 : Int) + 1))) V1.heap.size 3 (.int .i64 ((pre ++ [((k2 : Int), x)]).length : Nat)) ∧ More V1 (V.setCell ⟨V1.heap.size, 0, none⟩ (.int .i64 ((k2 : Int) + 1))) ∧ (((pre ++ [((k2 : Int), x)]).length : Nat) : Int) = (k2 : Int) + 1 from
            ⟨fun lo hlo => (Turn.refl _ _ _).setCell (p := ⟨V1.heap.size, 0, none⟩) hlo (hE2 _ (by show V1.heap.size < _; omega)) _, by rw [List.length_append, List.length_singleton, hk2]; simpa using b3, hM2.setCell (p := ⟨V1.heap.size, 0, none⟩) (Nat.le_refl _) _, by rw [List.length_append, List.length_singleton, hk2]; simp⟩)
          clear bm b3 hx hk2 hM2 hMB hseq hpc
          by_cases hst : (k2 : Int) + 1 = stop
          · subst hst
            gi_wp2
            exact ⟨E2, HR.out.1 0 (Nat.zero_le _), ⟨rfl, by omega, by rw [HR.out.2.2.2]⟩, HR.out.2.1, HR.out.2.2.1, hE2⟩
          · have ht : ((k2 : Int) + 1 == stop) = false := by simpa using hst
            gi_wp2
            exact ⟨E2, HR.out.1 _ (Nat.le_refl _), HR.out.2.1, HR.out.2.2.1, by rw [HR.out.2.2.2]; omega, hE2⟩
        case done2 =>
          rintro D2 ys E2 V hD2 hED2 rfl ⟨bm, hM2, hns, hE2⟩ hwE2 hlow2 hKD2
          rw [numL_len] at bm
          have hV := More.trans hwBm (More.trans hM hM2)
          have c2 := (boxed_more a2 (More.trans hM hM2)).cell
          have c0 := (boxed_more a0 (More.trans hM hM2)).cell
          have br := boxed_more a1 (More.trans hM hM2)
          have cn := (boxed_more bn hM2).cell
          have cm := bm.cell
          have hKD' := (hM2.block D0 hDlt).trans hKD
          gi_wp2_with (refine ⟨trivial, ?_⟩; gi_at_call 6; refine (callsIn_wide.2 (live_true _)).mono ?_; rintro e w' ⟨rfl, hm⟩; have cr := (boxed_more br hm).cell; have fr := (boxed_more br hm).frozen)
          exact law_end2 n w _ D0 D2 (by omega) (by omega) (by omega) (boxed_more br hm) (More.trans hV hm) ((hm.block D0 (Array.getElem?_eq_some_iff.1 hKD').1).trans hKD') ((hm.block D2 (Array.getElem?_eq_some_iff.1 hKD2).1).trans hKD2) rfl
        case stop2 =>
          rintro D2 c pre E2 V hD2 hED2 ⟨cc, hcc, rfl⟩ ⟨⟨rfl, hst, hlen⟩, bm, hM2, hE2⟩ hwE2 hlow2 hKD2
          rw [numL_len] at hlen bm
          rw [hlen] at bm
          have hV := More.trans hwBm (More.trans hM hM2)
          have c2 := (boxed_more a2 (More.trans hM hM2)).cell
          have c0 := (boxed_more a0 (More.trans hM hM2)).cell
          have br := boxed_more a1 (More.trans hM hM2)
          have cn := (boxed_more bn hM2).cell
          have cm := bm.cell
          have hKD' := (hM2.block D0 hDlt).trans hKD
          by_cases hse : stop = (N : Int)
          · have hbe : (stop == (N : Int)) = true := by simpa using hse
            clear hlen hse
            gi_wp2_with (refine ⟨trivial, ?_⟩; gi_at_call 6; refine (callsIn_wide.2 (live_true _)).mono ?_; rintro e w' ⟨rfl, hm⟩; have cr := (boxed_more br hm).cell; have fr := (boxed_more br hm).frozen)
            exact law_end2 n w _ D0 D2 (by omega) (by omega) (by omega) (boxed_more br hm) (More.trans hV hm) ((hm.block D0 (Array.getElem?_eq_some_iff.1 hKD').1).trans hKD') ((hm.block D2 (Array.getElem?_eq_some_iff.1 hKD2).1).trans hKD2) rfl
          · have hbe : (stop == (N : Int)) = false := by simpa using hse
            clear hlen hse
            gi_wp2_with (refine ⟨trivial, ?_⟩; gi_at_call 6; refine (callsIn_wide.2 (live_true _)).mono ?_; rintro e w' ⟨rfl, hm⟩; have cr := (boxed_more br hm).cell; have fr := (boxed_more br hm).frozen)
            exact law_end2 n w _ D0 D2 (by omega) (by omega) (by omega) (boxed_more br hm) (More.trans hV hm) ((hm.block D0 (Array.getElem?_eq_some_iff.1 hKD').1).trans hKD') ((hm.block D2 (Array.getElem?_eq_some_iff.1 hKD2).1).trans hKD2) rfl
      case stop =>
        rintro D0 cc pre E V hD0 hED _ h _ _ _
        exact h.elim

set_option maxHeartbeats 1600000 in
set_option maxRecDepth 1000000 in
theorem goes_big (v : Value) (ls : List (List UInt8)) (stop : Int) (w : World) (ha : ARd w v ls) (hb : 100 < ls.length) :
    Calls Try.prog 5 #[v, .int .i64 stop] w fun e W' => e = .returned (.bool true) ∧ More w W' := by
  obtain ⟨ao, cap, rfl⟩ := ha.shape
  have hb' : (100 : Int) < (ls.length : Int) := by omega
  obtain ⟨w3, hw3⟩ : ∃ w3, (w.alloc (.cells #[.int .i64 stop] 3)).alloc (.cells #[.bool false] 4) = w3 := ⟨_, rfl⟩
  obtain ⟨hM3, b0, b1, _⟩ := boxes2 w stop w3 hw3
  have H0 := Hid.mk (And.intro hM3 b1)
  clear ha
  generalize ls.length = n at *
  clear hM3 b0 b1
  go_enter Try.func5, Try.ntmps5
  go_wp2_with (go_at_call 6; refine (live_true _).mono ?_; rintro e w5 ⟨rfl, hm⟩; have br := boxed_more H0.out.2 hm; have cr := br.cell; have fr := br.frozen; have hc := (br.set (.bool true)).cell; have H5 := Hid.mk hm; clear hm)
  refine bodyPost_ret (v := .bool true) ?_ rfl ⟨rfl, ?_⟩
  · simp [results, Try.f5, go_sem, hc]
  · exact (More.trans H0.out.1 H5.out).setCell (p := ⟨w.heap.size + 1, 0, none⟩) (by simp) _

theorem tableGoes (v : Value) (ls : List (List UInt8)) (stop : Int) (w : World) (ha : ARd w v ls) (hl : ∀ x ∈ ls, x.length ≤ 281474976710656) :
    Calls Try.prog 5 #[v, .int .i64 stop] w fun e W' => e = .returned (.bool true) ∧ More w W' := by
  by_cases hb : 100 < ls.length
  · exact goes_big v ls stop w ha hb
  · exact (callsIn_wide (n := 20)).1 (goes 20 (Nat.le_refl _) v ls stop w ha (by omega) hl)
end Go.Proofs.Yteaakfkpbejnoaa
