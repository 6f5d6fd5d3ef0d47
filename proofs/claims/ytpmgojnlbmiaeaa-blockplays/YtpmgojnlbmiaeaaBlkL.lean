/-
  block: the document's Alloc.
-/
import Derived.Test.YtpmgojnlbmiaeaaBlkK
namespace Go.Proofs.Ytpmgojnlbmiaeaa
open Go.RowKit

theorem step_append_from {P : Program} {w : World} {ops : Array Oper} {o : Oper} {a : Act} {K : Act → World → Prop} {Q : Exit → Act → World → Prop} {E : Prop} (hgd : o.guard = none) (s x : Operand) (t : TypeId)
    (ho : o.op = .call { callee := .builtin .append, args := #[s, x], argTypes := #[t, t] })
    (base : Nat) (e : TypeId) (i : TypeInfo) (z : Value) (size bytes : Nat) (ht : P.underlying t = some (.slice e)) (hi : P.info? e = some i) (hz : i.zero = some z)
    (hsize : i.size = size) (hby : i.bytes = bytes) (hzs : z.cells.size = size) (hsz : 0 < size)
    (v : Value) (n : Nat) (xs : List Value) (hs : a.eval s = v) (hown : w.ownsRow base e size v n xs)
    (vs : Value) (m : Nat) (news : List Value) (hx : a.eval x = vs) (hl : news.length = m * size)
    (hsrc : (vs = .slice none 0 0 ∧ m = 0) ∨ ∃ ad c, vs = .slice (some ad) m c ∧ ∀ j u, news[j]? = some u → w.cell? (ad.add j) = some u) (h1 : ∀ u ∈ news, u.oneCell' = true)
    (h63 : n + m ≤ maxLen) (hbytes : (n + m) * bytes ≤ 140737488355328) (hbase : base ≤ w.heap.size)
    (h : ∀ v' w', w'.ownsRow base e size v' (n + m) (xs ++ news) → w.grownBy w' v.ownBlock → K (a.put o.dst v') w') :
    if Region.wanted o (yielded ops a.tmps) = true then Oper.wp P o a w K Q else E := by
  have hw : Region.wanted o (yielded ops a.tmps) = true := by simp [Region.wanted, hgd]
  rw [if_pos hw]
  rcases hsrc with ⟨rfl, rfl⟩ | ⟨ad, c, rfl, hc⟩
  · obtain rfl : news = [] := List.eq_nil_of_length_eq_zero (by simpa using hl)
    have hrun := run_append_owned_none (P := P) (w := w) base t o.type e i size ht hi v n xs hown
    unfold Oper.wp
    simp only [execOp, ho, resolve, invoke, builtin, Sem.run_bind, Sem.run_pure, Result.andThen_ok, List.map_toArray, List.map_cons, List.map_nil, hs, hx, hrun]
    exact h v w (by simpa using hown) ⟨rfl, rfl, rfl, Nat.le_refl _, fun _ _ _ => rfl⟩
  · obtain ⟨v', w', hrun, h2, h3, _, _⟩ := run_append_own_at (P := P) w base t o.type e i z size bytes ht hi hz hsize hby hzs hsz v n xs hown ad m c news hl hc h1 h63 hbytes hbase
    unfold Oper.wp
    simp only [execOp, ho, resolve, invoke, builtin, Sem.run_bind, Sem.run_pure, Result.andThen_ok, List.map_toArray, List.map_cons, List.map_nil, hs, hx, hrun]
    exact h v' w' h2 h3
theorem wpList_of_step {P : Program} {ops : Array Oper} {rest : List Oper} {o : Oper} {a : Act} {w : World} {Q : Exit → Act → World → Prop} (hgd : o.guard = none)
    (h : ∀ K : Act → World → Prop, (∀ a' w', wpList P ops Q rest a' w' → K a' w') → if Region.wanted o (yielded ops a.tmps) = true then Oper.wp P o a w K Q else True) : wpList P ops Q (o :: rest) a w :=
  wpList_plain hgd fun K hK => by
    have := h K hK
    rw [if_pos (by simp [Region.wanted, hgd])] at this
    exact this
theorem own_none {W : World} {base g : Nat} {e : TypeId} (hg : base ≤ g) (hc : W.heap[g]? = some (.cells #[] e (0, 0))) : W.ownsRow base e 1 (.slice (some ⟨g, 0, none⟩) 0 0) 0 [] :=
  ⟨rfl, .inr ⟨g, 0, #[], rfl, hg, hc, Nat.le_refl _, by decide, rfl, rfl⟩⟩
theorem src_any {w : World} {base n : Nat} {e : TypeId} {v : Value} {xs : List Value} (o : Obj) (hown : w.ownsRow base e 1 v n xs) :
    (v = .slice none 0 0 ∧ n = 0) ∨ ∃ ad c, v = .slice (some ad) n c ∧ ∀ j u, xs[j]? = some u → (w.alloc o).cell? (ad.add j) = some u := by
  rcases hown.2 with h | ⟨g, cap, cur, rfl, _, hg, _⟩
  · exact .inl h
  · refine .inr ⟨_, _, rfl, fun j u hu => ?_⟩
    have hj : j < xs.length := (List.getElem?_eq_some_iff.1 hu).1
    rw [hown.1] at hj
    rw [Addr.add_lit, World.cell?_alloc_past _ _ _ (lt_of_block hg), Nat.zero_add, hown.cellAt j (by omega), hu]
theorem own_low {w : World} {base base' e s n : Nat} {v : Value} {xs : List Value} (h : w.ownsRow base e s v n xs) (hb : base' ≤ base) : w.ownsRow base' e s v n xs :=
  ⟨h.1, h.2.imp id fun ⟨g, cap, cur, hv, h1, hr⟩ => ⟨g, cap, cur, hv, Nat.le_trans hb h1, hr⟩⟩
/-- Two appends to a new row: nothing old has turned. -/
theorem more_two {w w1 w2 : World} {o : Obj} {e : TypeId} {v1 : Value} {n : Nat} {xs : List Value} {x : Value} (hown1 : w1.ownsRow w.heap.size e 1 v1 n xs) (hg1 : (w.alloc o).grownBy w1 (some w.heap.size)) (hg2 : (w1.alloc (.cells #[x] e)).grownBy w2 v1.ownBlock) : More w w2 := by
  have hm1 : More w w1 := (more_alloc w o).grown hg1 (by simp) (fun k hk => Nat.le_of_eq (by simpa using hk))
  exact (More.trans hm1 (more_alloc w1 (.cells #[x] e))).grown hg2 (by have := hm1.size; simp; omega) (fun k hk => (hown1.lt k hk).1)

section
variable {w : World} {base x size most N p a : Nat} {vt vk : Value} {tk : Nat → Bool} {u : Nat → List UInt8}
theorem Doc.setE {n g cap : Nat} (h : Doc w base x size most n N p (.slice (some ⟨g, 0, none⟩) n cap) vk tk u) (k : Nat) :
    Doc (w.setCell ⟨g, k, none⟩ (.string ⟨#[]⟩)) base x size most n N p (.slice (some ⟨g, 0, none⟩) n cap) vk tk (upd u k []) ∧ KeepsT DT base w (w.setCell ⟨g, k, none⟩ (.string ⟨#[]⟩)) := h.setT k []
theorem Doc.taken {n : Nat} (h : Doc w base x size most n N p vt vk tk u) {ao : Option Addr} {cap : Nat} (hv : vk = .slice ao N cap) : ∀ k, k < N → ∃ g, ao = some ⟨g, 0, none⟩ ∧ w.cell? ⟨g, k, none⟩ = some (.bool (tk k)) := fun k hk => by
  subst hv
  obtain ⟨g, c, cur, he, _⟩ := shape_some h.tak (by omega)
  simp only [Value.slice.injEq, true_and] at he
  obtain ⟨rfl, rfl⟩ := he
  exact ⟨g, rfl, (h.cellK hk).1⟩
set_option maxHeartbeats 1000000 in
set_option maxRecDepth 1000000 in
theorem rd_Alloc_full (h : Doc w base x size most N N p vt vk tk u) (hN : N ≤ 1048576) (hf : First tk N N) (hm : most ≤ N) :
    Calls Try.prog 19 #[.pointer (some ⟨x, 0, none⟩)] w fun e w' => e = .returned (.tuple #[.int .i64 0, .int .i64 6]) ∧ w' = w := by
  obtain ⟨_, c1, _, c3, _⟩ := wcells5 h.box
  obtain ⟨ao, cap, rfl⟩ := shape_any h.tak
  have HC := Hid.mk (And.intro (h.taken rfl) hf)
  clear h hf
  go_enter Try.func19, Try.ntmps19
  go_wp2
  go_loopw [4] (fun iv wr => ∃ k : Nat, k ≤ N ∧ iv = .int .i64 k ∧ wr = w) (fun iv _ => N - (intOf iv).toNat)
  case atStart => exact ⟨0, Nat.zero_le _, rfl, rfl⟩
  case round =>
    obtain ⟨k, hk, rfl, rfl⟩ := hrel
    by_cases hlt : k < N
    · obtain ⟨g, rfl, ck⟩ := HC.out.1 k hlt
      rw [HC.out.2.2.1 k hlt] at ck
      go_wp2
      exact ⟨⟨k + 1, by omega, by go_num, trivial⟩, by simp [intOf]; omega⟩
    · obtain rfl : k = N := by omega
      go_wp2
      go_ret2
      exact ⟨rfl, rfl⟩
set_option maxHeartbeats 2000000 in
set_option maxRecDepth 1000000 in
theorem rd_Alloc_old (h : Doc w base x size most N N N vt vk tk u) (hN : N ≤ 1048576) (hmo : most ≤ 1048576) (hf : First tk N a) (ha : a < N) (hm : N ≤ most) :
    Calls Try.prog 19 #[.pointer (some ⟨x, 0, none⟩)] w fun e w' => e = .returned (.tuple #[.int .i64 a, .int .i64 0]) ∧ Doc w' base x size most N N N vt vk (upd tk a true) (upd u a []) ∧ KeepsT DT base w w' := by
  obtain ⟨_, c1, c2, c3, c4, _⟩ := wcells5 h.box
  obtain ⟨g, cap, cur, rfl, _⟩ := shape_some h.tak (by omega)
  obtain ⟨g2, cap2, cur2, rfl, _⟩ := shape_some h.txt (by omega)
  obtain ⟨ca, fa⟩ := h.cellK ha
  rw [hf.2.2 ha] at ca
  have HC := Hid.mk (And.intro (fun k hk => (h.cellK (k := k) hk).1) (And.intro hf h))
  clear h hf
  go_enter Try.func19, Try.ntmps19
  go_wp2
  go_loopw [4] (fun iv wr => ∃ k : Nat, k ≤ a ∧ iv = .int .i64 k ∧ wr = w) (fun iv _ => N - (intOf iv).toNat)
  case atStart => exact ⟨0, Nat.zero_le _, rfl, rfl⟩
  case round =>
    obtain ⟨k, hk, rfl, rfl⟩ := hrel
    by_cases hlt : k < a
    · have ck := HC.out.1 k (by omega)
      rw [HC.out.2.1.2.1 k hlt] at ck
      have hkN : k < N := by omega
      go_wp2
      exact ⟨⟨k + 1, by omega, by go_num, trivial⟩, by simp [intOf]; omega⟩
    · obtain rfl : k = a := by omega
      have hne : ¬ (most : Int) ≤ k := by omega
      have hne2 : ¬ (k : Int) = N := by omega
      obtain ⟨hD1, hK1⟩ := HC.out.2.2.setK k true
      obtain ⟨hD2, hK2⟩ := hD1.setE k
      obtain ⟨_, _, d2, _, _⟩ := wcells5 hD1.box
      obtain ⟨t2, t3⟩ := hD1.cellT ha
      obtain ⟨_, _, _, _, d4, _, _, e4⟩ := wcells5 hD2.box
      have hus := rd_Used (hD2.more (More.drewN _ 1)) hN
      have hcn := cnt_le (upd tk k true) N
      obtain ⟨M, hM⟩ : ∃ M, cnt (upd tk k true) N = M := ⟨_, rfl⟩
      rw [hM] at hus hcn
      have hmx : max (N : Int) (M : Int) = (N : Int) := by omega
      have HD := Hid.mk (And.intro hD2 (hK1.trans hK2))
      clear hD1 hD2 hK1 hK2 hM
      go_wp2
      go_region_with (go_at_call 10; refine hus.mono ?_; rintro e w5 ⟨rfl, hw'⟩; subst hw')
      all_goals
        go_wp2
        go_ret2
        have hP := (HD.out.1.more (More.drewN _ 1)).setP N
        exact ⟨rfl, hP.1, HD.out.2.trans ((KeepsT.more (More.drewN _ 1) HD.out.1.sz).trans hP.2)⟩
set_option maxHeartbeats 4000000 in
set_option maxRecDepth 1000000 in
theorem rd_Alloc_new (h : Doc w base x size most N N N vt vk tk u) (hN : N < 1048576) (hmo : most ≤ 1048576) (hf : First tk N N) (hm : N < most) :
    Calls Try.prog 19 #[.pointer (some ⟨x, 0, none⟩)] w fun e w' => e = .returned (.tuple #[.int .i64 N, .int .i64 0]) ∧ (∃ vt' vk', Doc w' base x size most (N + 1) (N + 1) (N + 1) vt' vk' (upd tk N true) (upd u N [])) ∧ KeepsT DT base w w' := by
  obtain ⟨i0, hi, hz0, hz1, hz2⟩ := info_parts Try.infoBool
  obtain ⟨i1, hj, hy0, hy1, hy2⟩ := info_parts Try.infoStr
  obtain ⟨_, c1, c2, c3, c4, f2, f3, f4⟩ := wcells5 h.box
  have hlx : x < w.heap.size := lt_of_block h.box
  obtain ⟨ao, cap, rfl⟩ := shape_any h.tak
  obtain ⟨ao2, cap2, rfl⟩ := shape_any h.txt
  have HC := Hid.mk (And.intro (h.taken rfl) (And.intro hf h))
  have HE := Hid.mk (heap_alloc_new w (.cells #[] 4))
  clear h hf
  go_enter Try.func19, Try.ntmps19
  go_wp2
  go_loopw [4] (fun iv wr => ∃ k : Nat, k ≤ N ∧ iv = .int .i64 k ∧ wr = w) (fun iv _ => N - (intOf iv).toNat)
  case atStart => exact ⟨0, Nat.zero_le _, rfl, rfl⟩
  case round =>
    obtain ⟨k, hk, rfl, rfl⟩ := hrel
    by_cases hlt : k < N
    · obtain ⟨g, rfl, ck⟩ := HC.out.1 k hlt
      rw [HC.out.2.1.2.1 k hlt] at ck
      go_wp2
      exact ⟨⟨k + 1, by omega, by go_num, trivial⟩, by simp [intOf]; omega⟩
    · obtain rfl : k = N := by omega
      go_wp2_with (first
        | (at_builtin; refine wpList_of_step rfl (fun K hK => step_append_from (by rfl) (.tmp 37) (.tmp 41) 30 (by rfl) wr.heap.size 4 i0 (.bool false) 1 1 Try.underlying30 hi hz0 hz1 hz2 rfl (by decide) (.slice (some ⟨wr.heap.size, 0, none⟩) 0 0) 0 [] rfl (own_none (Nat.le_refl _) HE.out) (.slice ao k cap) k (vals Value.bool tk k) rfl (by rw [vals_len, Nat.mul_one]) (src_any _ HC.out.2.2.tak) (bools_oneC tk k) (by unfold maxLen; omega) (by omega) (by simp) ?_); intro v1 w1 hown1 hg1; refine hK _ _ ?_; have H1 := Hid.mk (And.intro hown1 hg1); clear hown1 hg1 hK K)
        | (at_builtin; refine wpList_append_own_at _ rfl (.tmp 42) (.tmp 43) 30 rfl wr.heap.size 4 i0 (.bool false) 1 1 Try.underlying30 hi hz0 hz1 hz2 rfl (by decide) _ _ _ rfl (H1.out.1.alloc _) ⟨w1.heap.size, 0, none⟩ 1 1 [.bool false] rfl rfl (one_cell _ _ _) (by intro q hq; simp at hq; subst hq; rfl) ?c3 ?c4 ?c5 ?_))
      case c3 => unfold maxLen; omega
      case c4 => omega
      case c5 => have := H1.out.2.size; simp at this ⊢; omega
      intro v2 w2 hown2 hg2 _ _
      have hr2 : w2.ownsRow base 4 1 v2 (k + 1) (vals Value.bool (upd tk k false) (k + 1)) := by
        have := own_low hown2 HC.out.2.2.sz
        rw [vals_snoc] at this
        exact this
      have hm2 := more_two H1.out.1 H1.out.2 hg2
      obtain ⟨g, e, cu, rfl, _⟩ := shape_some hr2 (by omega)
      obtain ⟨hD3, hK3⟩ := HC.out.2.2.newK hm2 hr2
      obtain ⟨_, _, d2, d3, d4, b2, b3, b4⟩ := wcells5 (hm2.at HC.out.2.2.box)
      have hs3 : (w2.setCell ⟨x, 3, none⟩ (.slice (some ⟨g, 0, none⟩) (k + 1) e)).heap.size = w2.heap.size := by simp
      have hE3 := heap_alloc_new (w2.setCell ⟨x, 3, none⟩ (.slice (some ⟨g, 0, none⟩) (k + 1) e)) (.cells #[] 9)
      rw [hs3] at hE3
      have HE3 := Hid.mk (And.intro hE3 hs3)
      have hl3 : x < w2.heap.size := Nat.lt_of_lt_of_le hlx hm2.size
      obtain ⟨_, _, h2, _⟩ := wcells5 hD3.box
      have HD3 := Hid.mk (And.intro hD3 hK3)
      have kA : ∀ o, ((w2.setCell ⟨x, 3, none⟩ (.slice (some ⟨g, 0, none⟩) (k + 1) e)).alloc o).cell? ⟨x, 2, none⟩ = some (.slice ao2 k cap2) := fun o => ((more_alloc _ o).cell (by simpa using hl3)).trans h2
      clear hm2 hr2 hown2 hg2 hD3 hK3 h2 hE3 hs3
      go_wp2_with (first
        | (at_builtin; refine wpList_of_step rfl (fun K hK => step_append_from (by rfl) (.tmp 48) (.tmp 52) 29 (by rfl) w2.heap.size 9 i1 (.string ⟨#[]⟩) 1 16 Try.underlying29 hj hy0 hy1 hy2 rfl (by decide) (.slice (some ⟨w2.heap.size, 0, none⟩) 0 0) 0 [] rfl (own_none (Nat.le_refl _) HE3.out.1) (.slice ao2 k cap2) k (vals strC u k) rfl (by rw [vals_len, Nat.mul_one]) (src_any _ HD3.out.1.txt) (strs_oneC u k) (by unfold maxLen; omega) (by omega) (by simp) ?_); intro v4 w4 hown4 hg4; refine hK _ _ ?_; have H4 := Hid.mk (And.intro hown4 hg4); clear hown4 hg4 hK K)
        | (at_builtin; refine wpList_append_own_at _ rfl (.tmp 53) (.tmp 54) 29 rfl w2.heap.size 9 i1 (.string ⟨#[]⟩) 1 16 Try.underlying29 hj hy0 hy1 hy2 rfl (by decide) _ _ _ rfl (H4.out.1.alloc _) ⟨w4.heap.size, 0, none⟩ 1 1 [.string ⟨#[]⟩] rfl rfl (one_cell _ _ _) (one_str _) ?c6 ?c7 ?c8 ?_))
      case c6 => unfold maxLen; omega
      case c7 => omega
      case c8 => have := H4.out.2.size; simp at this ⊢; omega
      intro v5 w5 hown5 hg5 _ _
      have hr5 : w5.ownsRow base 9 1 v5 (k + 1) (vals strC (upd u k []) (k + 1)) := by
        have := own_low hown5 (by rw [← HE3.out.2]; exact HD3.out.1.sz)
        rw [show Value.string ⟨#[]⟩ = strC [] from rfl, vals_snoc] at this
        exact this
      have hm5 := more_two (w := w2.setCell ⟨x, 3, none⟩ (.slice (some ⟨g, 0, none⟩) (k + 1) e)) (by rw [HE3.out.2]; exact H4.out.1) (by rw [HE3.out.2]; exact H4.out.2) hg5
      obtain ⟨g2, e2, cu2, rfl, _⟩ := shape_some hr5 (by omega)
      obtain ⟨hD6, hK6⟩ := HD3.out.1.newT hm5 hr5
      obtain ⟨_, _, i2, i3, i4, j2, j3, j4⟩ := wcells5 (hm5.at HD3.out.1.box)
      obtain ⟨hD7, hK7⟩ := hD6.setK k true
      obtain ⟨hD8, hK8⟩ := hD7.setE k
      obtain ⟨k1, k2⟩ := hD6.cellK (k := k) (by omega)
      obtain ⟨m1, m2⟩ := hD7.cellT (k := k) (by omega)
      obtain ⟨_, _, _, l3, _⟩ := wcells5 hD6.box
      obtain ⟨_, _, n2, _, _⟩ := wcells5 hD7.box
      obtain ⟨_, _, _, _, o4, _, _, p4⟩ := wcells5 hD8.box
      rw [upd_upd, upd_upd] at hD8
      have hus := rd_Used (hD8.more (More.drewN _ 1)) (by omega)
      have hcn := cnt_all (tk := upd tk k true) (N := k + 1) (fun i hi => by
        by_cases ei : i = k
        · rw [ei, upd_at]
        · rw [upd_ne _ _ ei]; exact HC.out.2.1.2.1 i (by omega))
      rw [hcn] at hus
      have HD := Hid.mk (And.intro hD8 (HD3.out.2.trans (hK6.trans (hK7.trans hK8))))
      clear hm5 hr5 hown5 hg5 hD6 hD7 hD8 hK6 hK7 hK8 hcn kA
      go_wp2
      go_region_with (go_at_call 10; refine hus.mono ?_; rintro e w9 ⟨rfl, hw'⟩; subst hw')
      all_goals
        go_wp2
        go_ret2
        have hP := (HD.out.1.more (More.drewN _ 1)).setP (k + 1)
        rw [show (((k + 1 : Nat)) : Int) = max (k : Int) ((k : Int) + 1) by omega] at hP
        exact ⟨rfl, ⟨_, _, hP.1⟩, HD.out.2.trans ((KeepsT.more (More.drewN _ 1) HD.out.1.sz).trans hP.2)⟩
end
end Go.Proofs.Ytpmgojnlbmiaeaa
