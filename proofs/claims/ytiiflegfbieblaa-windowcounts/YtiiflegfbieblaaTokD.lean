/-
  The document's Words, Lines, Join.
-/
import Derived.Test.YtiiflegfbieblaaTokC
import Derived.Deep.RegionLaw
import Derived.Deep.AppendLies
namespace Go.Proofs.Ytiiflegfbieblaa
open Go.RowKit

theorem Try.infoStr : (Try.prog.info? 9).map (fun i => (i.zero, i.size, i.bytes)) = some (some (.string ⟨#[]⟩), 1, 16) := by kernel_rfl
theorem Try.infoStrs : (Try.prog.info? 22).map (fun i => (i.zero, i.size, i.bytes)) = some (some (.slice none 0 0), 1, 24) := by kernel_rfl

/-- What is appended is nil, or lies somewhere: at an operation, whatever the fence of its region. -/
theorem step_append_from {P : Program} {w : World} {ops : Array Oper} {o : Oper} {a : Act} {K : Act → World → Prop} {Q : Exit → Act → World → Prop} {E : Prop} (hgd : o.guard = none) (s x : Operand) (t : TypeId)
    (ho : o.op = .call { callee := .builtin .append, args := #[s, x], argTypes := #[t, t] })
    (base : Nat) (e : TypeId) (i : TypeInfo) (z : Value) (size bytes : Nat) (ht : P.underlying t = some (.slice e)) (hi : P.info? e = some i) (hz : i.zero = some z)
    (hsize : i.size = size) (hby : i.bytes = bytes) (hzs : z.cells.size = size) (hsz : 0 < size)
    (v : Value) (n : Nat) (xs : List Value) (hs : a.eval s = v) (hown : w.ownsRow base e size v n xs)
    (vs : Value) (m : Nat) (news : List Value) (hx : a.eval x = vs) (hl : news.length = m * size)
    (hsrc : (vs = .slice none 0 0 ∧ m = 0) ∨ ∃ ad c, vs = .slice (some ad) m c ∧ ∀ j u, news[j]? = some u → w.cell? (ad.add j) = some u) (h1 : ∀ u ∈ news, u.oneCell' = true)
    (h63 : n + m ≤ maxLen) (hbytes : (n + m) * bytes ≤ 140737488355328) (hbase : base ≤ w.heap.size)
    (h : ∀ v' w', w'.ownsRow base e size v' (n + m) (xs ++ news) → w.grownBy w' v.ownBlock → K (a.put o.dst v') w') :
    if Region.wanted o (yielded ops a.tmps) = true then Oper.wp P o a w K Q else E := by
  have hw : Region.wanted o (yielded ops a.tmps) = true := by simp [Region.wanted, hgd]
  rw [if_pos hw]
  rcases hsrc with ⟨rfl, rfl⟩ | ⟨ad, c, rfl, hc⟩
  · obtain rfl : news = [] := List.eq_nil_of_length_eq_zero (by simpa using hl)
    have hrun := run_append_owned_none (P := P) (w := w) base t o.type e i size ht hi v n xs hown
    unfold Oper.wp
    simp only [execOp, ho, resolve, invoke, builtin, Sem.run_bind, Sem.run_pure, Result.andThen_ok, List.map_toArray, List.map_cons, List.map_nil, hs, hx, hrun]
    exact h v w (by simpa using hown) ⟨rfl, rfl, rfl, Nat.le_refl _, fun _ _ _ => rfl⟩
  · obtain ⟨v', w', hrun, h2, h3, _, _⟩ := run_append_own_at (P := P) w base t o.type e i z size bytes ht hi hz hsize hby hzs hsz v n xs hown ad m c news hl hc h1 h63 hbytes hbase
    unfold Oper.wp
    simp only [execOp, ho, resolve, invoke, builtin, Sem.run_bind, Sem.run_pure, Result.andThen_ok, List.map_toArray, List.map_cons, List.map_nil, hs, hx, hrun]
    exact h v' w' h2 h3

/-- A row of texts of the call's own, in a world that has new blocks alone. -/
structure Grow (w : World) (v : Value) (ts : List (List UInt8)) (W : World) : Prop where
  row : W.ownsRow w.heap.size 9 1 v ts.length (strs ts)
  more : More w W
theorem Grow.nil (w : World) : Grow w (.slice none 0 0) [] w := ⟨World.ownsRow_nil _ _ _ _, More.refl w⟩
theorem Grow.later {w W W' : World} {v : Value} {ts : List (List UInt8)} (h : Grow w v ts W) (k : More W W') : Grow w v ts W' := ⟨k.own h.row, More.trans h.more k⟩
theorem Grow.shape {w W : World} {v : Value} {ts : List (List UInt8)} (h : Grow w v ts W) : ∃ ao cap, v = .slice ao ts.length cap := wshape_of h.row
theorem Grow.rd {w W : World} {v : Value} {ts : List (List UInt8)} (h : Grow w v ts W) : SRd W v ts := ⟨_, h.row⟩
theorem Grow.app {w W Wa W' : World} {v v' : Value} {ts : List (List UInt8)} {t : List UInt8} (h : Grow w v ts W) (ha : More W Wa) (hown : W'.ownsRow w.heap.size 9 1 v' (ts.length + 1) (strs ts ++ [.string (bs t)])) (hg : Wa.grownBy W' v.ownBlock) : Grow w v' (ts ++ [t]) W' :=
  ⟨by rw [strs_snoc, List.length_append, List.length_singleton]; exact hown, (More.trans h.more ha).grown hg (by have := h.more.size; have := ha.size; omega) (fun k hk => (h.row.lt k hk).1)⟩
theorem More.drew' {a b : World} (h : More a b) : More a b.drew := More.trans h ⟨rfl, rfl, rfl, Nat.le_refl _, fun _ _ => rfl⟩
theorem alloc2_new (w : World) (a b : Obj) : ((w.alloc a).alloc b).heap[w.heap.size + 1]? = some b := by
  have h := heap_alloc_new (w.alloc a) b
  rw [World.size_alloc] at h
  exact h
theorem alloc2_old (w : World) (a b : Obj) : ((w.alloc a).alloc b).heap[w.heap.size]? = some a := (heap_alloc_old (w.alloc a) b (by simp)).trans (heap_alloc_new w a)
theorem own_empty {W : World} {base g : Nat} (hg : base ≤ g) (hc : W.heap[g]? = some (.cells #[] 9 (0, 0))) : W.ownsRow base 9 1 (.slice (some ⟨g, 0, none⟩) 0 0) 0 [] :=
  ⟨rfl, .inr ⟨g, 0, #[], rfl, hg, hc, Nat.le_refl _, by decide, rfl, rfl⟩⟩
theorem src_of {W : World} {base : Nat} {v : Value} {ts : List (List UInt8)} (h : W.ownsRow base 9 1 v ts.length (strs ts)) : (v = .slice none 0 0 ∧ ts.length = 0) ∨ ∃ ad c, v = .slice (some ad) ts.length c ∧ ∀ j u, (strs ts)[j]? = some u → W.cell? (ad.add j) = some u := by
  rcases h.2 with h0 | ⟨g, cap, cur, hv, _⟩
  · exact .inl h0
  · subst hv
    refine .inr ⟨⟨g, 0, none⟩, cap, rfl, fun j u hj => ?_⟩
    have hlt : j < ts.length := by
      have := (List.getElem?_eq_some_iff.1 hj).1
      rwa [strs_len] at this
    have := h.cellAt j (by omega)
    rw [hj] at this
    by_cases h0 : j = 0
    · subst h0; simpa [Addr.add] using this
    · simpa [Addr.add, h0] using this
theorem strs_one (ts : List (List UInt8)) : ∀ u ∈ strs ts, u.oneCell' = true := by
  intro u hu
  simp [strs] at hu
  obtain ⟨t, _, rfl⟩ := hu
  rfl
/-- 'append([]string{}, v...)' at an operation. -/
theorem step_first {w wr W : World} {ops : Array Oper} {o : Oper} {a : Act} {K : Act → World → Prop} {Q : Exit → Act → World → Prop} {E : Prop} {s x : Operand} {i : TypeInfo} {v : Value} {pre : List (List UInt8)} {g : Nat} (hgd : o.guard = none)
    (ho : o.op = .call { callee := .builtin .append, args := #[s, x], argTypes := #[22, 22] }) (hi : Try.prog.info? 9 = some i) (hz : i.zero = some (.string ⟨#[]⟩)) (hsize : i.size = 1) (hby : i.bytes = 16)
    (hs : a.eval s = .slice (some ⟨g, 0, none⟩) 0 0) (hx : a.eval x = v) (hG : Grow w v pre wr) (hm : More wr W) (hc : W.heap[g]? = some (.cells #[] 9 (0, 0))) (hg : wr.heap.size ≤ g) (hn : pre.length ≤ 2000000)
    (h : ∀ v' w', Grow w v' pre w' → W.heap.size ≤ w'.heap.size → (∀ k, k < W.heap.size → k ≠ g → w'.heap[k]? = W.heap[k]?) → K (a.put o.dst v') w') :
    if Region.wanted o (yielded ops a.tmps) = true then Oper.wp Try.prog o a W K Q else E := by
  have h1 := hG.more.size
  have h2 := hm.size
  refine step_append_from hgd s x 22 ho w.heap.size 9 i (.string ⟨#[]⟩) 1 16 Try.underlying22 hi hz hsize hby rfl (by decide) _ 0 [] hs (own_empty (by omega) hc) v pre.length (strs pre) hx (by rw [strs_len, Nat.mul_one]) (src_of (hG.later hm).row) (strs_one pre) (by unfold maxLen; omega) (by omega) (by omega) ?_
  intro v' w' hown hgrow
  refine h v' w' ⟨by simpa using hown, (More.trans hG.more hm).grown hgrow (by omega) (fun k hk => by simp [Value.ownBlock] at hk; omega)⟩ hgrow.size (fun k hk hne => hgrow.block k hk (fun e => hne (by simpa [Value.ownBlock] using e)))
/-- 'append(v, t)' at an operation. -/
theorem step_next {w wr W : World} {ops : Array Oper} {o : Oper} {a : Act} {K : Act → World → Prop} {Q : Exit → Act → World → Prop} {E : Prop} {s x : Operand} {i : TypeInfo} {v : Value} {pre : List (List UInt8)} {t : List UInt8} {b : Nat} (hgd : o.guard = none)
    (ho : o.op = .call { callee := .builtin .append, args := #[s, x], argTypes := #[22, 22] }) (hi : Try.prog.info? 9 = some i) (hz : i.zero = some (.string ⟨#[]⟩)) (hsize : i.size = 1) (hby : i.bytes = 16)
    (hs : a.eval s = v) (hx : a.eval x = .slice (some ⟨b, 0, none⟩) 1 1) (hG : Grow w v pre wr) (hm : More wr W) (hc : W.heap[b]? = some (.cells #[.string (bs t)] 9 (0, 0))) (hn : pre.length ≤ 2000000)
    (h : ∀ v' w', Grow w v' (pre ++ [t]) w' → K (a.put o.dst v') w') :
    if Region.wanted o (yielded ops a.tmps) = true then Oper.wp Try.prog o a W K Q else E := by
  have h1 := hG.more.size
  have h2 := hm.size
  refine step_append_from hgd s x 22 ho w.heap.size 9 i (.string ⟨#[]⟩) 1 16 Try.underlying22 hi hz hsize hby rfl (by decide) v pre.length (strs pre) hs (hm.own hG.row) _ 1 [.string (bs t)] hx rfl (.inr ⟨_, _, rfl, fun j u hj => ?_⟩) (one_str _) (by unfold maxLen; omega) (by omega) (by omega) ?_
  · match j, hj with
    | 0, hj =>
      simp at hj; subst hj
      simp [Addr.add, World.cell?, hc]
  intro v' w' hown hgrow
  exact h v' w' (hG.app hm hown hgrow)
theorem ret_same {v v' : Value} (h : v = v') : Ending.returned v = .returned v' := by rw [h]

set_option maxRecDepth 1000000 in
set_option maxHeartbeats 4000000 in
theorem rf_lines (l : List UInt8) (hl : l.length ≤ 1000000) (w : World) :
    Calls Try.prog 61 #[.string (bs l)] w fun e w' => ∃ v, e = .returned v ∧ Grow w v (lns [] l) w' := by
  have hsz : (bs l).size = l.length := bs_size l
  have HL := Hid.mk (And.intro (lnA_zero l) (And.intro (@lnA_go l) (And.intro (@lnA_cut l) (And.intro (lnA_last l) (lns_len l [])))))
  obtain ⟨i0, hi, hz0, hz1, hz2⟩ := info_parts Try.infoStr
  go_enter Try.func61, Try.ntmps61
  go_wp2
  go_loopw [3, 4, 5] (fun v s k wr => ∃ (a i : Nat) (pre : List (List UInt8)), a ≤ i ∧ i ≤ l.length ∧ k = .int .i64 i ∧ s = .int .i64 a ∧ pre ++ lnA l a i = lns [] l ∧ Grow w v pre wr) (fun _ _ k _ => l.length - (intOf k).toNat)
  case atStart => exact ⟨0, 0, [], Nat.le_refl _, by omega, rfl, rfl, by rw [List.nil_append]; exact HL.out.1, Grow.nil w⟩
  case round =>
    obtain ⟨a, i, pre, hai, hi2, rfl, rfl, hpre, hG⟩ := hrel
    have hplen : pre.length ≤ l.length + 1 := by
      have h1 := congrArg List.length hpre
      rw [List.length_append] at h1
      have := HL.out.2.2.2.2.2
      omega
    have HP := Hid.mk hpre
    clear hpre
    obtain ⟨ao, cap, rfl⟩ := hG.shape
    have HG := Hid.mk hG
    by_cases hlt : i < l.length
    · have hlt' : i < (bs l).size := by omega
      obtain ⟨B, hB⟩ : ∃ B, bt l i = B := ⟨_, rfl⟩
      have hbt : ((bs l)[i]'hlt').toNat = B := by rw [bt_bs, hB]
      have e10 : ((B : Int) == 10) = decide (B = 10) := int_eq B 10
      have HS := Hid.mk (And.intro (@HL.out.2.1 a i hai hlt) (@HL.out.2.2.1 a i hlt))
      rw [hB] at HS
      clear hB hG
      by_cases h10 : B = 10
      · rw [decide_eq_true h10] at e10
        have hB10 : (B : Int) = 10 := by omega
        have hcut := tslice_mid l a i a i rfl rfl hai (by omega)
        have HS2 := Hid.mk (HS.out.2 h10)
        obtain ⟨x, hx⟩ : ∃ x, cutL l a i = x := ⟨_, rfl⟩
        rw [hx] at hcut HS2
        clear hx HS h10
        go_wp2_with (at_builtin; refine wpList_append_own_at _ rfl (.tmp 16) (.tmp 21) 22 rfl w.heap.size 9 i0 (.string ⟨#[]⟩) 1 16 Try.underlying22 hi hz0 hz1 hz2 rfl (by decide) _ _ _ rfl (HG.out.row.alloc _) ⟨wr.heap.size, 0, none⟩ 1 1 [.string (bs x)] rfl rfl (one_cell _ _ _) (one_str _) ?c3 ?c4 ?c5 ?_)
        case c3 => unfold maxLen; omega
        case c4 => omega
        case c5 => have := HG.out.more.size; simp; omega
        intro v' w4 hown4 hgrow _ _
        have HN := Hid.mk (HG.out.app (more_alloc _ _) hown4 hgrow)
        obtain ⟨ao4, cap4, rfl⟩ := wshape_of hown4
        clear hown4 hgrow
        go_wp2
        go_roundw
        case rel => exact ⟨i + 1, i + 1, pre ++ [x], Nat.le_refl _, by omega, by go_num, by go_num, by rw [List.append_assoc, List.singleton_append, ← HS2.out]; exact HP.out, HN.out⟩
        case measure => simp [intOf]; omega
      · rw [decide_eq_false h10] at e10
        have hB10 : ¬ (B : Int) = 10 := by omega
        have HS2 := Hid.mk (HS.out.1 h10)
        clear HS h10
        go_wp2
        go_roundw
        case rel => exact ⟨a, i + 1, pre, by omega, by omega, by go_num, rfl, by rw [← HS2.out]; exact HP.out, HG.out⟩
        case measure => simp [intOf]; omega
    · obtain rfl : i = l.length := by omega
      have HS := Hid.mk (HL.out.2.2.2.1 a)
      have hcut := tslice_from l a a rfl (by omega)
      obtain ⟨x, hx⟩ : ∃ x, List.drop a l = x := ⟨_, rfl⟩
      rw [hx] at hcut HS
      have HPX := Hid.mk (show pre ++ [x] = lns [] l by rw [← HS.out]; exact HP.out)
      obtain ⟨n, hn⟩ : ∃ n, l.length = n := ⟨_, rfl⟩
      rw [hn] at hsz hplen hl hai hlt ⊢
      clear hx hG hn HL HP HS
      go_wp2_with fail
      go_region_law (first
        | (refine step_next (s := .tmp 27) (x := .tmp 31) (by rfl) (by rfl) hi hz0 hz1 hz2 (by rfl) (by rfl) (by assumption) (by first | exact More.refl _ | exact more_alloc _ _) (by first | exact heap_alloc_new _ _ | (rw [hk1 _ (by first | (simp; done) | (simp; omega)) (by first | (simp; done) | (simp; omega))]; first | exact alloc2_old _ _ _ | exact alloc2_new _ _ _)) (by omega) ?_; intro v2 w2 hG2)
        | (refine step_first (s := .tmp 25) (x := .tmp 26) (by rfl) (by rfl) hi hz0 hz1 hz2 (by rfl) (by rfl) HG.out (More.drew' (by first | exact more_alloc _ _ | exact More.trans (more_alloc _ _) (more_alloc _ _))) (by first | exact heap_alloc_new _ _ | exact alloc2_old _ _ _ | exact alloc2_new _ _ _) (by simp) (by omega) ?_; intro v1 w1 hG1 hs1 hk1))
      all_goals
        have HF := Hid.mk (show Grow w v2 (pre ++ [x]) w2 by assumption)
        go_wp2
        go_ret
        exact ⟨_, rfl, by rw [← HPX.out]; exact HF.out⟩
end Go.Proofs.Ytiiflegfbieblaa
