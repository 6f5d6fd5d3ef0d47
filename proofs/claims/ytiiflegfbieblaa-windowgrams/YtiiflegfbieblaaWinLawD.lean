/-
  WindowGrams, walked: the n-grams of a list, gone over twice.
-/
import Derived.Test.YtiiflegfbieblaaWinLawC
namespace Go.Proofs.Ytiiflegfbieblaa
open Go.RowKit Go.Shelf
attribute [local go_sem] Oper.semAt_some

/-- An append to a row of the call's own, within a fence; what is appended may be nil. -/
theorem wpListIn_append_from {F : Fence} {nF : Nat} {P : Program} {w : World} {ops : Array Oper} {rest : List Oper} {o : Oper} {a : Act} {Q : Exit → Act → World → Prop} (hgd : o.guard = none) (s x : Operand) (t : TypeId)
    (ho : o.op = .call { callee := .builtin .append, args := #[s, x], argTypes := #[t, t] })
    (base : Nat) (e : TypeId) (i : TypeInfo) (z : Value) (size bytes : Nat) (ht : P.underlying t = some (.slice e)) (hi : P.info? e = some i) (hz : i.zero = some z)
    (hsize : i.size = size) (hby : i.bytes = bytes) (hzs : z.cells.size = size) (hsz : 0 < size)
    (v : Value) (n : Nat) (xs : List Value) (hs : a.eval s = v) (hown : w.ownsRow base e size v n xs)
    (vs : Value) (m : Nat) (news : List Value) (hx : a.eval x = vs) (hl : news.length = m * size)
    (hsrc : (vs = .slice none 0 0 ∧ m = 0) ∨ ∃ ad c, vs = .slice (some ad) m c ∧ ∀ j u, news[j]? = some u → w.cell? (ad.add j) = some u) (h1 : ∀ u ∈ news, u.oneCell' = true)
    (h63 : n + m ≤ maxLen) (hbytes : (n + m) * bytes ≤ 140737488355328) (hbase : base ≤ w.heap.size)
    (h : ∀ v' w', w'.ownsRow base e size v' (n + m) (xs ++ news) → w.grownBy w' v.ownBlock → wpListIn F nF P ops Q rest (a.put o.dst v') w') :
    wpListIn F nF P ops Q (o :: rest) a w := by
  rcases hsrc with ⟨rfl, rfl⟩ | ⟨ad, c, rfl, hc⟩
  · obtain rfl : news = [] := List.eq_nil_of_length_eq_zero (by simpa using hl)
    refine wpListIn_plain hgd fun K hK => ?_
    have hr := run_append_owned_none (P := P) (w := w) base t o.type e i size ht hi v n xs hown
    unfold Oper.wpIn
    refine ⟨by simp [Oper.about, ho, resolve, Target.leads, Sem.run_pure], ?_⟩
    rw [Oper.semAt_plain F _ _ (by rw [ho]; intro c hc'; cases hc')]
    simp [execOp, ho, resolve, invoke, builtin, hs, hx, hr, Result.andThen]
    exact hK _ _ (h v w (by simpa using hown) ⟨rfl, rfl, rfl, Nat.le_refl _, fun _ _ _ => rfl⟩)
  · exact wpListIn_append_own_at w hgd s x t ho base e i z size bytes ht hi hz hsize hby hzs hsz v n xs hs hown ad m c news hx hl hc h1 h63 hbytes hbase fun v' w' h2 h3 _ _ => h v' w' h2 h3

theorem pls_snoc {α : Type} {pre : List (Int × α)} {x : Int × α} {c : Nat} (h : (pre ++ [x]).map Prod.fst = pls c) : c = pre.length + 1 ∧ x.1 = (pre.length : Int) := by
  have h5 := congrArg List.length h
  rw [List.length_map, List.length_append, List.length_singleton, pls_len] at h5
  subst h5
  rw [pls_succ, List.map_append] at h
  have := (List.append_inj' h rfl).2
  exact ⟨rfl, by simpa using this⟩
/-- A round that turns one block alone, which is the caller's. -/
theorem Turn.of_one {lo g : Nat} {C : Nat → Prop} {V W : World} (h : Stay (fun k => k ≠ g) V W) (hs : W.heap.size = V.heap.size) (hlo : lo ≤ g) (hC : C g) : Turn lo C C V W :=
  ⟨h.os, h.tape, h.output, h.size, fun k _ hd => h.block k fun e => by
    subst e
    rcases hd with hd | hd
    · omega
    · exact hd hC, fun k => ⟨.inl, fun hh => hh.elim id fun hh => by omega⟩⟩

/-- The way out: true is stored; both loops' blocks are shut. -/
theorem grams_end (n : Nat) (w V : World) (D D2 : Nat) (hD : w.heap.size + 1 < D) (hD2 : w.heap.size + 1 < D2) (hne : D ≠ D2) {tmps : Array Value}
    (br : Boxed V (w.heap.size + 1) 4 (.bool false)) (hV : Below w.heap.size w V) (hK : V.heap[D]? = some (.deferred (some []))) (hK2 : V.heap[D2]? = some (.deferred (some []))) (h6 : tmps[6]?.getD undef = .pointer (some ⟨w.heap.size + 1, 0, none⟩)) :
    LeavesInM Fence.wide n Try.prog Try.f4 tmps (fun e W' => e = .returned (.bool true) ∧ Below w.heap.size w W') [{ target := .collected D2, args := #[] }, { target := .collected D, args := #[] }] .returning (V.setCell ⟨w.heap.size + 1, 0, none⟩ (.bool true)) := by
  have br' := br.set (.bool true)
  have hV' : Below w.heap.size w (V.setCell ⟨w.heap.size + 1, 0, none⟩ (.bool true)) := hV.setCell (p := ⟨w.heap.size + 1, 0, none⟩) (by simp) _
  have hK' := (KeepsOthers.setCell V ⟨w.heap.size + 1, 0, none⟩ (.bool true)).same D _ hK rfl
  have hK2' := (KeepsOthers.setCell V ⟨w.heap.size + 1, 0, none⟩ (.bool true)).same D2 _ hK2 rfl
  generalize V.setCell ⟨w.heap.size + 1, 0, none⟩ (.bool true) = Z at *
  refine leaves_marks (B := w.heap.size + 1 + 1) (.cons (by omega) hK2' (fun d h e => by
    rcases List.mem_cons.1 h with rfl | h
    · injection e with e; exact hne e
    · cases h) (.cons (by omega) hK' (fun _ h => by cases h) .nil)) fun w' hw' => ?_
  have br3 : Boxed w' (w.heap.size + 1) 4 (.bool true) := (hw'.block _ (by omega)).trans br'
  have hc := br3.cell
  refine ⟨.bool true, ?_, rfl, Below.trans hV' (hw'.mono (by omega))⟩
  simp [results, Try.f4, go_sem, h6, hc]

set_option maxRecDepth 1000000 in
set_option maxHeartbeats 6400000 in
theorem grams_goes (n : Nat) (hn : 40 ≤ n) (a : Value) (p : List Int) (m stop : Int) (w : World) (ha : IL w a p) (hc : Cap a) (hs : Src a p.length) (hl : p.length ≤ 60) (hm : m ≤ 9223372036854775807) :
    CallsIn Fence.wide n Try.prog 4 #[a, .int .i64 m, .int .i64 stop] w fun e W' => e = .returned (.bool true) ∧ More w W' := by
  have h1 : 1 ≤ n := by omega
  obtain ⟨i0, hi, hz0, hz1, hz2⟩ := info_parts Try.infoInt
  obtain ⟨w3, hw3⟩ : ∃ w3, (w.alloc (.cells #[.int .i64 stop] 3)).alloc (.cells #[.bool false] 4) = w3 := ⟨_, rfl⟩
  obtain ⟨hM3, b0, b1⟩ := boxes2 w stop w3 hw3
  obtain ⟨wE, hwE⟩ : ∃ wE, w3.alloc (.cells #[] 3) = wE := ⟨_, rfl⟩
  have hME : More w3 wE := by rw [← hwE]; exact more_alloc _ _
  have hNE : NL wE w3.heap.size (.slice (some ⟨w3.heap.size, 0, none⟩) 0 0) [] := by rw [← hwE]; exact own_none (Nat.le_refl _) (heap_alloc_new _ _)
  have hsrc : (a = .slice none 0 0 ∧ p.length = 0) ∨ ∃ ad c, a = .slice (some ad) p.length c ∧ ∀ j u, (zs p)[j]? = some u → wE.cell? (ad.add j) = some u := by
    rcases hs with h | ⟨ad, c, rfl⟩
    · exact .inl h
    · exact .inr ⟨ad, c, rfl, ha.cells ad rfl wE (More.trans hM3 hME)⟩
  have hgr := fun W => rf_grams a p m w W ha hc (by omega) hm
  have hpg := fun (v : Value) (W : World) (h : IL W v p) => w_grams (n - 1) (by omega) v p m W h (by omega)
  have hseq := fun B lo W (hG : GrAt W lo B p m) => grams_in (n - 1) (by omega) B p m hm (by omega) W lo hG
  have HG := Hid.mk (And.intro (grs_len p m) (fun q (hq : q < cn p.length m) => And.intro (cn_fit hq) (grs_get hq)))
  have HA := Hid.mk (And.intro ha (And.intro hsrc (And.intro hNE (And.intro hM3 (And.intro hME (And.intro b0 b1))))))
  have hl' : ¬ (60 : Int) < (p.length : Int) := by omega
  obtain ⟨ao, ca, rfl⟩ := ha.shape
  obtain ⟨k, hk⟩ : ∃ k, p.length = k := ⟨_, rfl⟩
  have HK := Hid.mk (And.intro hk (And.intro (zs_len p) (zs_one p)))
  rw [hk] at HA HG hl hl' hgr hseq ⊢
  obtain ⟨A, hA⟩ : ∃ A, grs p m = A := ⟨_, rfl⟩
  obtain ⟨T, hT⟩ : ∃ T, cn k m = T := ⟨_, rfl⟩
  rw [hA, hT] at HG hseq
  rw [hA] at hgr
  have hTl : T ≤ 60 := by rw [← hT]; exact Nat.le_trans (cn_le k m) hl
  clear ha hc hs hsrc hNE hM3 hME b0 b1 hk hA hT
  refine callsIn_of_wp_marks Try.func4 rfl trivial ?_ rfl
  simp only [Try.ntmps4, List.size_toArray, List.length_cons, List.length_nil, Nat.reduceAdd, Nat.reduceSub, Array.replicate_succ, Array.replicate_zero, List.push_toArray, List.append_toArray, List.nil_append, List.cons_append]
  gi_wp2_with (gi_at_builtin; refine wpListIn_append_from rfl (.tmp 21) (.tmp 22) 30 rfl w3.heap.size 3 i0 (.int .i64 0) 1 8 Try.underlying30 hi hz0 hz1 hz2 rfl (by decide) _ _ _ rfl HA.out.2.2.1 _ k (zs p) rfl (by rw [HK.out.2.1, HK.out.1, Nat.mul_one]) HA.out.2.1 HK.out.2.2 (by unfold maxLen; simp; omega) (by simp; omega) HA.out.2.2.2.2.1.size ?_)
  intro vo w4 hown4 hgrow4
  have hNo : NL w4 w3.heap.size vo p := by
    unfold NL
    rw [HK.out.1]
    exact hown4
  have hM4 : More w3 w4 := HA.out.2.2.2.2.1.grown hgrow4 HA.out.2.2.2.2.1.size (fun j hj => (World.ownsRow.lt HA.out.2.2.1 j hj).1)
  have H4 := Hid.mk (And.intro hNo hM4)
  obtain ⟨oo, oc, hoe⟩ := hNo.shape
  rw [HK.out.1] at hoe
  subst hoe
  clear hown4 hgrow4 hNo hM4 hw3 hwE
  gi_wp2_with (first
    | (refine ⟨trivial, ?_⟩; gi_at_call 16; refine (callsIn_wide.2 (hgr w4)).mono ?_; rintro e wS ⟨vS, rfl, hE, hM⟩; obtain ⟨aS, cS, hvS⟩ := hE.shape; rw [HG.out.1] at hvS; subst hvS; have HS := Hid.mk (And.intro hE hM); clear hE hM hgr
       obtain ⟨wT, hwT⟩ : ∃ wT, wS.alloc (.cells #[.slice none 0 0] 34) = wT := ⟨_, rfl⟩
       obtain ⟨bT, hST⟩ := one_box hwT
       have cT := bT.cell
       have fT := bT.frozen
       obtain ⟨wR, hwR⟩ : ∃ wR, wT.setCell ⟨wS.heap.size, 0, none⟩ (.slice aS T cS) = wR := ⟨_, rfl⟩
       have hbR : Boxed wR wS.heap.size 34 (.slice aS T cS) := (by rw [← hwR]; exact bT.set _)
       have hSR : More wS wR := (by rw [← hwR]; exact hST.setCell (p := ⟨wS.heap.size, 0, none⟩) (Nat.le_refl _) _)
       have HR := Hid.mk (And.intro hbR hSR)
       have hpR := hpg _ wR (H4.out.1.more (More.trans HS.out.2 hSR)).il
       clear bT hST hbR hSR hpg)
    | (refine ⟨trivial, ?_⟩; gi_at_call 17; refine hpR.mono ?_; rintro e w5 ⟨Be, rfl, hE, hM⟩; have H5 := Hid.mk (And.intro hE hM); clear hE hM hpR))
  rw [eql_func_nil _ 40 _ _ _ _ _ _ Try.underlying40]
  gi_wp2
  -- RANGES
  have hM0 := More.trans (More.trans HA.out.2.2.2.1 H4.out.2) HS.out.2
  have hMR := More.trans HR.out.2 H5.out.2
  have hM35 := More.trans (More.trans H4.out.2 HS.out.2) hMR
  have b0 := boxed_more HA.out.2.2.2.2.2.1 hM35
  have b1 := boxed_more HA.out.2.2.2.2.2.2 hM35
  have bw := boxed_more HR.out.1 H5.out.2
  have hMw := More.trans hM0 hMR
  have HWn := Hid.mk (show ∀ V, More w5 V → ∀ q, q < T → ∃ gS u, aS = some ⟨gS, 0, none⟩ ∧ V.cell? ⟨gS, q, none⟩ = some u ∧ IL V u (A.getD q []) from fun V hV q hq => by
    obtain ⟨gS, u, e, hc, hu⟩ := HS.out.1.at (j := q) (by rw [HG.out.1]; exact hq)
    exact ⟨gS, u, e, held_to hc (More.trans hMR hV), hu.more (More.trans hMw hV)⟩)
  have HO := Hid.mk (show ∀ V, More w5 V → NL V w3.heap.size (.slice oo k oc) p ∧ IL V (.slice ao k ca) p from fun V hV => ⟨H4.out.1.more (More.trans HS.out.2 (More.trans hMR hV)), HA.out.1.more (More.trans hMw hV)⟩)
  have HZ := Hid.mk (show ∀ q, q < T → (A.getD q []).length = m.toNat ∧ 1 ≤ m.toNat ∧ m.toNat ≤ 60 from fun q hq => by
    have h5 := HG.out.2 q hq
    have h6 := h5.1.2.1
    exact ⟨by rw [h5.2, gr_len (by rw [HK.out.1]; exact h6)], by have := h5.1; omega, by omega⟩)
  have hW0 : More w5 (w5.alloc (.cells #[.int .i64 0] 3)) := more_alloc _ _
  have n0 : Boxed (w5.alloc (.cells #[.int .i64 0] 3)) w5.heap.size 3 (.int .i64 0) := Boxed.new _ _ _
  have hb1 : w.heap.size + 1 < w5.heap.size := b1.lt
  have HMw := Hid.mk hMw
  generalize w5.alloc (.cells #[.int .i64 0] 3) = W0 at hW0 n0 ⊢
  have hzk : w5.heap.size < W0.heap.size := n0.lt
  have hseq5 := hseq Be wR.heap.size w5 H5.out.1
  clear hwT hwR cT fT hM0 hMR hMw HR hM35
  refine range_give rfl h1 (gf := 41) (lb := #[.pointer (some ⟨Be, 0, none⟩)]) rfl trivial (enters_of Try.func41 (by kernel_rfl) rfl)
    hseq5 hW0.size hW0 (fun _ => rfl) (fun base pre x A A' h k => GvG.stay base pre x A A' h k)
    (fun pre E V => Boxed V w5.heap.size 3 (.int .i64 pre.length) ∧ More w5 V ∧ (∀ j, j < W0.heap.size → E j))
    (fun _ _ _ _ => False)
    (fun s E A A' h k => ⟨k.boxed h.1 (h.2.2 _ hzk), Below.trans h.2.1 (k.below fun j hj => h.2.2 j (by omega)), h.2.2⟩)
    (fun _ _ _ _ _ h _ => h)
    (fun _ _ _ h => h.2.1)
    (fun s E A A' h _ k => ⟨boxed_more h.1 k, More.trans h.2.1 k, fun j hj => .inl (h.2.2 j hj)⟩)
    ⟨n0, hW0, fun _ h => h⟩
    (fun x => { tmps := #[.slice ao k ca, .int .i64 m, .int .i64 stop, undef, undef, .pointer (some ⟨w.heap.size, 0, none⟩), .pointer (some ⟨w.heap.size + 1, 0, none⟩), .slice oo k oc, .pointer (some ⟨wS.heap.size, 0, none⟩), grV Be, .pointer (some ⟨w5.heap.size, 0, none⟩), .int .i64 x.1, x.2, undef, undef, undef, undef, .slice ao k ca, .int .i64 k, .bool false, undef, .slice (some ⟨w3.heap.size, 0, none⟩) 0 0, .slice ao k ca, .slice oo k oc, .slice ao k ca, .int .i64 m, .slice aS T cS, .slice oo k oc, .int .i64 m, grV Be, grV Be, .bool false, grV Be, .int .i64 x.1, x.2, undef, undef, undef, undef, undef, undef, undef, undef, undef, undef, undef, undef, undef, undef, undef, undef, undef, undef, undef, undef, undef, undef, undef, undef, undef, undef, undef, undef, undef, undef, undef, undef, undef, undef, undef, undef, undef, undef, undef, undef, undef, undef, undef, undef, undef, undef, undef, undef, undef, undef, undef, undef, undef, undef, undef, undef, undef, undef, undef, undef, undef, undef, undef, undef, undef, undef, undef, undef, undef, undef, undef, undef, undef, undef, undef, undef, undef], defers := [] }) ?assign ?body ?done ?stop
  case assign =>
    intro l2 x V K' hK'
    gi_wp2
    exact hK'
  case body =>
    rintro l2 pre ⟨x1, x⟩ V E ⟨c, hc, hSp⟩ ⟨bk, hM, hE⟩ hgv hgb hwE hlw hszV hlen
    have hx1 := (pls_snoc hSp).2
    dsimp only at hx1 hgb
    subst hx1
    have hd : 1 ≤ n - 1 - 1 := by omega
    obtain ⟨q, hq⟩ : ∃ q, pre.length = q := ⟨_, rfl⟩
    have HQ : Hid (∀ y : Int × Value, (pre ++ [y]).length = q + 1) := Hid.mk fun y => by rw [List.length_append, List.length_singleton, hq]
    have hNx : NL V (W0.heap.size + 2) x (A.getD q []) := by
      have h5 : NL V (W0.heap.size + 2) x (A.getD pre.length []) := hgv
      rwa [hq] at h5
    rw [hq] at bk hlen ⊢
    obtain ⟨gS, u, rfl, cu, hu⟩ := HWn.out V hM q hlen
    have hz := HZ.out q hlen
    have his := rf_intsD x u (A.getD q []) (A.getD q []) V hNx.il hu (by omega)
    rw [decide_eq_true rfl] at his
    obtain ⟨gx, xc, rfl, hgx⟩ := hNx.form (by omega)
    have hEg := (hgb gx rfl).1
    have hNo : V.ownsRow (W0.heap.size + 2) 3 1 (.slice (some ⟨gx, 0, none⟩) (A.getD q []).length xc) (A.getD q []).length (zs (A.getD q [])) := hNx
    obtain ⟨N, hN⟩ : ∃ N, (A.getD q []).length = N := ⟨_, rfl⟩
    rw [hN] at hNo hz his ⊢
    have ck := bk.cell
    have cw := (boxed_more bw hM).cell
    have hlenI : ¬ (T : Int) ≤ (q : Int) := by omega
    have HB := Hid.mk (And.intro bk (And.intro hM (And.intro hE (And.intro hNo hEg))))
    have hNl : N ≤ 60 := by omega
    have hltk := bk.lt
    clear hgv hgb hSp hc hu hNx hNo bk hseq5 hseq hN hz hq
    gi_wp2_with (refine ⟨trivial, ?_⟩; gi_at_call 10; refine (CallsIn.inRound l2 (callsIn_wide.2 his)).mono ?_; rintro e w7 ⟨rfl, qq, hw7⟩; have hm7 := More.drewn_of hw7; clear hw7; have H7 := Hid.mk hm7; clear hm7)
    gi_loopw [13] (fun jv wr => ∃ j : Nat, j ≤ N ∧ jv = .int .i64 j ∧ (∃ xs, wr.ownsRow (W0.heap.size + 2) 3 1 (.slice (some ⟨gx, 0, none⟩) N xc) N xs) ∧ Stay (fun b => b ≠ gx) w7 wr ∧ wr.heap.size = w7.heap.size) (fun jv _ => N - (intOf jv).toNat)
    case atStart => exact ⟨0, by omega, rfl, ⟨_, H7.out.own HB.out.2.2.2.1⟩, Stay.refl _ _, rfl⟩
    case round =>
      obtain ⟨j, hj, rfl, ⟨xs, hxs⟩, hst, hsz⟩ := hrel
      by_cases hlt : j < N
      · have hxl : xs.length = N := by have := hxs.1; omega
        have cj := hxs.cellAt j (by omega)
        rw [List.getElem?_eq_getElem (by omega)] at cj
        have fj := hxs.frozenAt j
        have hs2 := World.ownsRow.stored hxs j (.int .i64 (-7))
        have HX := Hid.mk (And.intro hs2.1 (And.intro (hst.setCell (p := ⟨gx, j, none⟩) (fun h => h rfl) (.int .i64 (-7))) (show (wr.setCell ⟨gx, j, none⟩ (.int .i64 (-7))).heap.size = w7.heap.size by rw [← hsz]; simp)))
        clear hxs hs2 hst hsz
        gi_wp2
        go_roundw
        case rel => exact ⟨j + 1, by omega, by go_num, ⟨_, HX.out.1⟩, HX.out.2.1, HX.out.2.2⟩
        case measure => simp [intOf]; omega
      · obtain rfl : j = N := by omega
        have hne : w5.heap.size ≠ gx := by omega
        have bkr : Boxed wr w5.heap.size 3 (.int .i64 q) := hst.boxed (boxed_more HB.out.1 H7.out) hne
        have ckr := bkr.cell
        have fkr := bkr.frozen
        have b3 := bkr.set (.int .i64 ((q : Int) + 1))
        have htu := ((Turn.of_more (lo := w5.heap.size) (C := E) H7.out).trans (Turn.of_one hst hsz (by omega) (.inl HB.out.2.2.2.2))).setCell (p := ⟨w5.heap.size, 0, none⟩) (Nat.le_refl _) (.inl (HB.out.2.2.1 _ (show w5.heap.size < W0.heap.size by omega))) (.int .i64 ((q : Int) + 1))
        have hMf : More w5 (wr.setCell ⟨w5.heap.size, 0, none⟩ (.int .i64 ((q : Int) + 1))) := (Below.trans (More.trans HB.out.2.1 H7.out) (hst.below (B := w5.heap.size) fun b hb => by omega)).setCell (p := ⟨w5.heap.size, 0, none⟩) (Nat.le_refl _) _
        have HF := Hid.mk (And.intro htu (And.intro b3 hMf))
        clear bkr b3 htu hMf hxs hst hsz
        gi_wp2
        exact ⟨_, HF.out.1, by rw [HQ.out]; simpa using HF.out.2.1, HF.out.2.2, fun j hj => .inl (HB.out.2.2.1 j hj)⟩
  case done =>
    rintro D ys E V1 hD hED hys ⟨bk, hM1, hE⟩ hwE hlow hKD
    have hyl : ys.length = T := by
      have h5 := congrArg List.length hys
      rwa [List.length_map, pls_len] at h5
    rw [hyl] at bk
    have hDlt := (Array.getElem?_eq_some_iff.1 hKD).1
    clear hseq5
    gi_wp2
    have hW1 : More V1 (V1.alloc (.cells #[.int .i64 0] 3)) := more_alloc _ _
    have m0 : Boxed (V1.alloc (.cells #[.int .i64 0] 3)) V1.heap.size 3 (.int .i64 0) := Boxed.new _ _ _
    have hV1 := hM1.size
    generalize V1.alloc (.cells #[.int .i64 0] 3) = W1 at hW1 m0 ⊢
    have hzm : V1.heap.size < W1.heap.size := m0.lt
    have hseq1 := hseq Be wR.heap.size V1 (H5.out.1.more hM1)
    clear hseq
    refine range_give rfl h1 (gf := 41) (lb := #[.pointer (some ⟨Be, 0, none⟩)]) rfl trivial (enters_of Try.func41 (by kernel_rfl) rfl)
      hseq1 hW1.size hW1 (fun _ => rfl) (fun base pre x A A' h k => GvG.stay base pre x A A' h k)
      (fun pre E V => Boxed V V1.heap.size 3 (.int .i64 pre.length) ∧ More V1 V ∧ ¬ (0 < stop ∧ stop ≤ pre.length) ∧ (∀ j, j < W1.heap.size → E j))
      (fun c pre E V => (c = .exit 4 ∧ 0 < stop ∧ (pre.length : Int) = stop) ∧ Boxed V V1.heap.size 3 (.int .i64 pre.length) ∧ More V1 V ∧ (∀ j, j < W1.heap.size → E j))
      (fun s E A A' h k => ⟨k.boxed h.1 (h.2.2.2 _ hzm), Below.trans h.2.1 (k.below fun j hj => h.2.2.2 j (by omega)), h.2.2.1, h.2.2.2⟩)
      (fun c s E A A' h k => ⟨h.1, k.boxed h.2.1 (h.2.2.2 _ hzm), Below.trans h.2.2.1 (k.below fun j hj => h.2.2.2 j (by omega)), h.2.2.2⟩)
      (fun _ _ _ h => h.2.1)
      (fun s E A A' h _ k => ⟨boxed_more h.1 k, More.trans h.2.1 k, h.2.2.1, fun j hj => .inl (h.2.2.2 j hj)⟩)
      ⟨m0, hW1, by simp, fun _ h => h⟩
      (fun x => { tmps := #[.slice ao k ca, .int .i64 m, .int .i64 stop, undef, undef, .pointer (some ⟨w.heap.size, 0, none⟩), .pointer (some ⟨w.heap.size + 1, 0, none⟩), .slice oo k oc, .pointer (some ⟨wS.heap.size, 0, none⟩), grV Be, .pointer (some ⟨w5.heap.size, 0, none⟩), undef, undef, undef, .pointer (some ⟨V1.heap.size, 0, none⟩), .int .i64 x.1, x.2, .slice ao k ca, .int .i64 k, .bool false, undef, .slice (some ⟨w3.heap.size, 0, none⟩) 0 0, .slice ao k ca, .slice oo k oc, .slice ao k ca, .int .i64 m, .slice aS T cS, .slice oo k oc, .int .i64 m, grV Be, grV Be, .bool false, grV Be, undef, undef, undef, undef, undef, undef, undef, undef, undef, undef, undef, undef, undef, undef, undef, undef, undef, undef, undef, undef, undef, undef, undef, undef, undef, undef, undef, undef, undef, undef, undef, grV Be, .int .i64 x.1, x.2, undef, undef, undef, undef, undef, undef, undef, undef, undef, undef, undef, undef, undef, undef, undef, undef, undef, undef, undef, undef, undef, undef, undef, undef, undef, undef, undef, undef, undef, undef, undef, undef, undef, undef, undef, undef, undef, undef, undef, undef, undef, undef, undef, undef, undef], defers := [] }) ?assign2 ?body2 ?done2 ?stop2
    case assign2 =>
      intro l2 x V K' hK'
      gi_wp2
      exact hK'
    case body2 =>
      rintro l2 pre ⟨x1, x⟩ V E2 ⟨c, hc, hSp⟩ ⟨bm, hM, hns, hE2⟩ hgv hgb hwE2 hlw hszV hlen
      have hx1 := (pls_snoc hSp).2
      dsimp only at hx1
      subst hx1
      have hd : 1 ≤ n - 1 - 1 := by omega
      obtain ⟨q, hq⟩ : ∃ q, pre.length = q := ⟨_, rfl⟩
      have HQ : Hid (∀ y : Int × Value, (pre ++ [y]).length = q + 1) := Hid.mk fun y => by rw [List.length_append, List.length_singleton, hq]
      have hNx : NL V (W1.heap.size + 2) x (A.getD q []) := by
        have h5 : NL V (W1.heap.size + 2) x (A.getD pre.length []) := hgv
        rwa [hq] at h5
      rw [hq] at bm hlen hns ⊢
      obtain ⟨gS, u, rfl, cu, hu⟩ := HWn.out V (More.trans hM1 hM) q hlen
      have his := rf_intsD x u (A.getD q []) (A.getD q []) V hNx.il hu (by have := HZ.out q hlen; omega)
      rw [decide_eq_true rfl] at his
      obtain ⟨xo, xc, rfl⟩ := hNx.shape
      have cm := bm.cell
      have cw := (boxed_more bw (More.trans hM1 hM)).cell
      have hlenI : ¬ (T : Int) ≤ (q : Int) := by omega
      have HB := Hid.mk (And.intro bm (And.intro hM hE2))
      have hltk := bm.lt
      clear hgv hgb hSp hc hu hNx bm hseq1 hq
      by_cases hst : (q : Int) + 1 = stop
      · subst hst
        gi_wp2_with (refine ⟨trivial, ?_⟩; gi_at_call 10; refine (CallsIn.inRound l2 (callsIn_wide.2 his)).mono ?_; rintro e w7 ⟨rfl, qq, hw7⟩; have hm7 := More.drewn_of hw7; clear hw7; have bk7 := boxed_more HB.out.1 hm7; have ck7 := bk7.cell; have fk7 := bk7.frozen; have b37 := bk7.set (.int .i64 ((q : Int) + 1)); have c37 := b37.cell; have c07 := ((boxed_more b0 (More.trans hM1 (More.trans HB.out.2.1 hm7))).other (show w.heap.size ≠ V1.heap.size by omega) (.int .i64 ((q : Int) + 1))).cell; have H7 := Hid.mk (And.intro hm7 b37); clear hm7 bk7 b37)
        exact ⟨_, ((Turn.of_more (lo := 0) (C := E2) H7.out.1).setCell (p := ⟨V1.heap.size, 0, none⟩) (Nat.zero_le _) (.inl (HB.out.2.2 _ (show V1.heap.size < W1.heap.size by omega))) _), ⟨rfl, by omega, by rw [HQ.out]; simp⟩, by rw [HQ.out]; simpa using H7.out.2, (More.trans HB.out.2.1 H7.out.1).setCell (p := ⟨V1.heap.size, 0, none⟩) (Nat.le_refl _) _, fun j hj => .inl (HB.out.2.2 j hj)⟩
      · have ht : ((q : Int) + 1 == stop) = false := by simpa using hst
        gi_wp2_with (refine ⟨trivial, ?_⟩; gi_at_call 10; refine (CallsIn.inRound l2 (callsIn_wide.2 his)).mono ?_; rintro e w7 ⟨rfl, qq, hw7⟩; have hm7 := More.drewn_of hw7; clear hw7; have bk7 := boxed_more HB.out.1 hm7; have ck7 := bk7.cell; have fk7 := bk7.frozen; have b37 := bk7.set (.int .i64 ((q : Int) + 1)); have c37 := b37.cell; have c07 := ((boxed_more b0 (More.trans hM1 (More.trans HB.out.2.1 hm7))).other (show w.heap.size ≠ V1.heap.size by omega) (.int .i64 ((q : Int) + 1))).cell; have H7 := Hid.mk (And.intro hm7 b37); clear hm7 bk7 b37)
        exact ⟨_, ((Turn.of_more (lo := V1.heap.size) (C := E2) H7.out.1).setCell (p := ⟨V1.heap.size, 0, none⟩) (Nat.le_refl _) (.inl (HB.out.2.2 _ (show V1.heap.size < W1.heap.size by omega))) _), by rw [HQ.out]; simpa using H7.out.2, (More.trans HB.out.2.1 H7.out.1).setCell (p := ⟨V1.heap.size, 0, none⟩) (Nat.le_refl _) _, by rw [HQ.out]; omega, fun j hj => .inl (HB.out.2.2 j hj)⟩
    case done2 =>
      rintro D2 zs2 E2 V hD2 hED2 hzs ⟨bm, hM, hns, hE2⟩ hwE2 hlow2 hKD2
      have hzl : zs2.length = T := by
        have h5 := congrArg List.length hzs
        rwa [List.length_map, pls_len] at h5
      rw [hzl] at bm
      have hMV := More.trans hM1 hM
      have hio := rf_intsD (.slice oo k oc) (.slice ao k ca) p p V (HO.out V hMV).1.il (HO.out V hMV).2 (by rw [HK.out.1]; omega)
      rw [decide_eq_true rfl] at hio
      have ck := (boxed_more bk hM).cell
      have cm := bm.cell
      have cw := (boxed_more bw hMV).cell
      have c0 := (boxed_more b0 hMV).cell
      have br := boxed_more b1 hMV
      have hV := More.trans HMw.out hMV
      have hKD' := (hM.block D hDlt).trans hKD
      clear hseq1
      gi_wp2_with (first
            | (refine ⟨trivial, ?_⟩; gi_at_call 10; refine (callsIn_wide.2 hio).mono ?_; rintro e w7 ⟨rfl, qq, hw7⟩; have hm7 := More.drewn_of hw7; clear hw7; have H7 := Hid.mk hm7; clear hm7 hio)
            | (refine ⟨trivial, ?_⟩; gi_at_call 8; refine (callsIn_wide.2 (live_true _)).mono ?_; rintro e w' ⟨rfl, hm⟩; have cr := (boxed_more br (More.trans H7.out hm)).cell; have fr := (boxed_more br (More.trans H7.out hm)).frozen))
      exact grams_end n w _ D D2 (by omega) (by omega) (by omega) (boxed_more br (More.trans H7.out hm)) (More.trans hV (More.trans H7.out hm)) (((More.trans H7.out hm).block D (Array.getElem?_eq_some_iff.1 hKD').1).trans hKD') (((More.trans H7.out hm).block D2 (Array.getElem?_eq_some_iff.1 hKD2).1).trans hKD2) rfl
    case stop2 =>
      rintro D2 cc pre E2 V hD2 hED2 hSp ⟨⟨rfl, hst, hlen⟩, bm, hM, hE2⟩ hwE2 hlow2 hKD2
      rw [hlen] at bm
      have hMV := More.trans hM1 hM
      have hio := rf_intsD (.slice oo k oc) (.slice ao k ca) p p V (HO.out V hMV).1.il (HO.out V hMV).2 (by rw [HK.out.1]; omega)
      rw [decide_eq_true rfl] at hio
      have ck := (boxed_more bk hM).cell
      have cm := bm.cell
      have cw := (boxed_more bw hMV).cell
      have c0 := (boxed_more b0 hMV).cell
      have br := boxed_more b1 hMV
      have hV := More.trans HMw.out hMV
      have hKD' := (hM.block D hDlt).trans hKD
      clear hseq1
      by_cases hse : stop = (T : Int)
      · have hbe : (stop == (T : Int)) = true := by simpa using hse
        clear hlen hse
        gi_wp2_with (first
            | (refine ⟨trivial, ?_⟩; gi_at_call 10; refine (callsIn_wide.2 hio).mono ?_; rintro e w7 ⟨rfl, qq, hw7⟩; have hm7 := More.drewn_of hw7; clear hw7; have H7 := Hid.mk hm7; clear hm7 hio)
            | (refine ⟨trivial, ?_⟩; gi_at_call 8; refine (callsIn_wide.2 (live_true _)).mono ?_; rintro e w' ⟨rfl, hm⟩; have cr := (boxed_more br (More.trans H7.out hm)).cell; have fr := (boxed_more br (More.trans H7.out hm)).frozen))
        exact grams_end n w _ D D2 (by omega) (by omega) (by omega) (boxed_more br (More.trans H7.out hm)) (More.trans hV (More.trans H7.out hm)) (((More.trans H7.out hm).block D (Array.getElem?_eq_some_iff.1 hKD').1).trans hKD') (((More.trans H7.out hm).block D2 (Array.getElem?_eq_some_iff.1 hKD2).1).trans hKD2) rfl
      · have hbe : (stop == (T : Int)) = false := by simpa using hse
        clear hlen hse
        gi_wp2_with (first
            | (refine ⟨trivial, ?_⟩; gi_at_call 10; refine (callsIn_wide.2 hio).mono ?_; rintro e w7 ⟨rfl, qq, hw7⟩; have hm7 := More.drewn_of hw7; clear hw7; have H7 := Hid.mk hm7; clear hm7 hio)
            | (refine ⟨trivial, ?_⟩; gi_at_call 8; refine (callsIn_wide.2 (live_true _)).mono ?_; rintro e w' ⟨rfl, hm⟩; have cr := (boxed_more br (More.trans H7.out hm)).cell; have fr := (boxed_more br (More.trans H7.out hm)).frozen))
        exact grams_end n w _ D D2 (by omega) (by omega) (by omega) (boxed_more br (More.trans H7.out hm)) (More.trans hV (More.trans H7.out hm)) (((More.trans H7.out hm).block D (Array.getElem?_eq_some_iff.1 hKD').1).trans hKD') (((More.trans H7.out hm).block D2 (Array.getElem?_eq_some_iff.1 hKD2).1).trans hKD2) rfl
  case stop =>
    rintro D cc pre E V hD hED _ h _ _ _
    exact h.elim

set_option maxHeartbeats 1600000 in
set_option maxRecDepth 1000000 in
theorem windowGrams (a : Value) (p : List Int) (m stop : Int) (w : World) (ha : IL w a p) (hc : Cap a) (hs : Src a p.length) (hm : m ≤ 9223372036854775807) :
    Calls Try.prog 4 #[a, .int .i64 m, .int .i64 stop] w fun e W' => e = .returned (.bool true) ∧ More w W' := by
  by_cases hb : p.length ≤ 60
  · exact (callsIn_wide (n := 40)).1 (grams_goes 40 (Nat.le_refl _) a p m stop w ha hc hs hb hm)
  · obtain ⟨w3, hw3⟩ : ∃ w3, (w.alloc (.cells #[.int .i64 stop] 3)).alloc (.cells #[.bool false] 4) = w3 := ⟨_, rfl⟩
    obtain ⟨hM3, b0, b1⟩ := boxes2 w stop w3 hw3
    have H0 := Hid.mk (And.intro hM3 b1)
    have hlv := fun w => live_true w
    have hb' : (60 : Int) < (p.length : Int) := by omega
    obtain ⟨ao, ca, rfl⟩ := ha.shape
    generalize p.length = k at *
    clear hM3 b0 b1 ha hc hs hb
    go_enter Try.func4, Try.ntmps4
    go_wp2_with (go_at_call 8; refine (hlv _).mono ?_; rintro e w5 ⟨rfl, hm⟩; have br := boxed_more H0.out.2 hm; have cr := br.cell; have fr := br.frozen; have hc := (br.set (.bool true)).cell; have H5 := Hid.mk hm; clear hm)
    refine bodyPost_ret (v := .bool true) ?_ rfl ⟨rfl, ?_⟩
    · simp [results, Try.f4, go_sem, hc]
    · exact (More.trans H0.out.1 H5.out).setCell (p := ⟨w.heap.size + 1, 0, none⟩) (by simp) _
end Go.Proofs.Ytiiflegfbieblaa
