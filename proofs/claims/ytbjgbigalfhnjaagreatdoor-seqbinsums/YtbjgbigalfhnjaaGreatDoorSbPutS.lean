/-
  seqbin's PutSums: a sequence's bytes by its sums.
-/
import Derived.Test.YtbjgbigalfhnjaaGreatDoorSbSums
import Derived.Test.YtbjgbigalfhnjaaGreatDoorPrefixAll
import Derived.Test.YtbjgbigalfhnjaaGreatDoorSet22
namespace Go.Proofs.YtbjgbigalfhnjaaGreatDoor
open Go.RowKit Go.Shelf
attribute [local go_sem] Oper.semAt_some

/-- An append to a row of the call's own, as one operation of a region. -/
theorem opIn_append_at {F : Fence} {nF : Nat} {P : Program} {ops : Array Oper} {Q : Exit → Act → World → Prop} {k : Nat} {o : Oper} {a : Act} {w : World} {K : Act → World → Prop} (hop : ops[k]? = some o) (hgd : o.guard = none) (s x : Operand) (t : TypeId)
    (ho : o.op = .call { callee := .builtin .append, args := #[s, x], argTypes := #[t, t] })
    (base : Nat) (e : TypeId) (i : TypeInfo) (z : Value) (size bytes : Nat) (ht : P.underlying t = some (.slice e)) (hi : P.info? e = some i) (hz : i.zero = some z)
    (hsize : i.size = size) (hby : i.bytes = bytes) (hzs : z.cells.size = size) (hsz : 0 < size)
    (v : Value) (n : Nat) (xs : List Value) (hs : a.eval s = v) (hown : w.ownsRow base e size v n xs)
    (ad : Addr) (m c : Nat) (news : List Value) (hx : a.eval x = .slice (some ad) m c) (hl : news.length = m * size) (hnews : ∀ j u, news[j]? = some u → w.cell? (ad.add j) = some u) (h1 : ∀ u ∈ news, u.oneCell' = true)
    (h63 : n + m ≤ maxLen) (hbytes : (n + m) * bytes ≤ 140737488355328) (hbase : base ≤ w.heap.size)
    (h : ∀ v' w', w'.ownsRow base e size v' (n + m) (xs ++ news) → w.grownBy w' v.ownBlock → (v'.ownBlock = v.ownBlock ∨ v'.ownBlock = some w.heap.size) → K (a.put o.dst v') w') :
    wpOpIn F nF P ops Q k K a w := by
  refine wpOpIn_step hop (fun K' hK => ?_)
  rw [if_pos (by simp [Region.wanted, hgd])]
  obtain ⟨v', w', hr, h2, h3, _, h5⟩ := run_append_own_at (P := P) w base t o.type e i z size bytes ht hi hz hsize hby hzs hsz v n xs hown ad m c news hl hnews h1 h63 hbytes hbase
  unfold Oper.wpIn
  refine ⟨by simp [Oper.about, ho, resolve, Target.leads, Sem.run_pure], ?_⟩
  rw [Oper.semAt_plain F _ _ (by rw [ho]; intro c hc'; cases hc')]
  simp [execOp, ho, resolve, invoke, builtin, hs, hx, hr, Result.andThen]
  exact hK _ _ (h v' w' h2 h3 h5)

theorem pall_call' (n : Nat) (p : Option Addr) (w : World) : CallsIn Fence.wide n Tryz.prog 26 #[.pointer p] w fun e w' => e = .returned (.func (.func 61) #[] #[.pointer (some ⟨w.heap.size, 0, none⟩)]) ∧ w' = w.alloc (.cells #[.pointer p] 26) := by
  refine callsIn_of_wp Tryz.func26 rfl trivial ?_ rfl
  simp only [Tryz.ntmps26, List.size_toArray, List.length_cons, List.length_nil, Nat.reduceAdd, Nat.reduceSub, Array.replicate_succ, Array.replicate_zero, List.push_toArray, List.append_toArray, List.nil_append, List.cons_append]
  gi_wp2
  go_ret
  exact ⟨rfl, rfl⟩

/-- Between two rounds of PutSums: k numbers have come. -/
structure SuI (wA : World) (B : Nat) (p : Option Addr) (f : Nat → Nat) (k : Nat) (E : Nat → Prop) (V : World) : Prop where
  row : ∃ v, Boxed V (B + 1) 22 v ∧ V.ownsRow B 3 1 v (k + 1) (ints (sm f) (k + 1)) ∧ ∀ j, v.ownBlock = some j → E j ∧ (j = B ∨ B + 1 + 1 + 1 ≤ j)
  bs : Boxed V (B + 1 + 1) 26 (.pointer p)
  more : More wA V
  low : ∀ j, j < B + 1 + 1 + 1 → E j
  sz : B ≤ V.heap.size
theorem SuI.stay {wA : World} {B : Nat} {p : Option Addr} {f : Nat → Nat} {k : Nat} {E : Nat → Prop} {V V' : World} (h : SuI wA B p f k E V) (st : Stay E V V') (hB : wA.heap.size ≤ B) : SuI wA B p f k E V' := by
  obtain ⟨v, h1, h2, h3⟩ := h.row
  exact ⟨⟨v, st.boxed h1 (h.low _ (by omega)), own_stay h2 (fun j hj => (h3 j hj).1) st, h3⟩, st.boxed h.bs (h.low _ (by omega)), Below.trans h.more (st.below fun j hj => h.low j (by omega)), h.low, Nat.le_trans h.sz st.size⟩

/-- What is kept stays so behind a mark that is taken off. -/
theorem KeepsT.behind {T : TypeId → Prop} {base : Nat} {a b c : World} (h : KeepsT T base a b) (k : Below a.heap.size b c) (hb : base ≤ a.heap.size) : KeepsT T base a c :=
  ⟨h.below.trans (k.mono hb), fun i _ _ _ hT x => by rw [k.block i (lt_of_block x)]; exact h.other _ _ _ _ hT x, fun i _ x => by rw [k.block i (lt_of_block x)]; exact h.marks _ _ x⟩
theorem WrAt.off {a c : World} {base b D : Nat} {l : List UInt8} {x : Option (List Deferred)} (h : WrAt a base b l) (hD : a.heap[D]? = some (.deferred x)) (k : Stay (fun j => j ≠ D) a c) : WrAt c base b l := by
  obtain ⟨v, hb, hv⟩ := h.mem
  have hbD : b ≠ D := fun e => by rw [e, hD] at hb; cases hb
  refine ⟨h.lo, Nat.le_trans h.sz k.size, v, by rw [k.block b hbD]; exact hb, own_stay hv (fun j hj e => ?_) k⟩
  subst e
  rcases hv.2 with ⟨rfl, _⟩ | ⟨g, cap, cur, rfl, _, hh, _⟩
  · simp [Value.ownBlock] at hj
  · simp [Value.ownBlock] at hj
    subst hj
    rw [hD] at hh; cases hh

/-- What PutSums does, writer and sequence given. -/
def PutSumsAt (base wb : Nat) (f : Nat → Nat) (N : Nat) (l : List UInt8) (w : World) (e : Ending) (w' : World) : Prop :=
  e = .returned (.tuple #[]) ∧ WrAt w' base wb (l ++ seqB (sm f) (N + 1)) ∧ KeepsT WT base w w'

set_option maxRecDepth 1000000 in
set_option maxHeartbeats 4000000 in
theorem sb_putSums (n : Nat) (hn : 20 ≤ n) (base wb : Nat) (p : Option Addr) (f : Nat → Nat) (N : Nat) (l : List UInt8) (w : World) (h : WrAt w base wb l) (hb0 : 0 < base) (hT : TabIn w) (hN : N ≤ 2000) (hl : l.length ≤ 100000) (htop : sm f N ≤ 1099511627776)
    (hlen : Calls Tryz.prog 12 #[.pointer p] w fun e w' => e = .returned (.int .i64 N) ∧ w' = w)
    (hseq : SeqSet Fence.wide (n - 1) Tryz.prog 61 #[.pointer (some ⟨w.heap.size + 1 + 1, 0, none⟩)] encP w.heap.size (fun A => Boxed A (w.heap.size + 1 + 1) 26 (.pointer p)) (fun xs => xs = allZ f N) (fun pre => ∃ c, c ≤ N ∧ pre = allZ f c) N w) :
    CallsIn Fence.wide n Tryz.prog 7 #[.pointer (some ⟨wb, 0, none⟩), .pointer p] w fun e w' => PutSumsAt base wb f N l w e w' := by
  have h1 : 1 ≤ n := by omega
  obtain ⟨i0, hi, hz0, hz1, hz2⟩ := info_parts Tryz.infoInt
  obtain ⟨wa, hwa⟩ : ∃ wa, w.alloc (.cells (madeCells #[.int .i64 0] (N + 1)) 3) = wa := ⟨_, rfl⟩
  have hmake : (Instr.makeSlice 22 (.int .i64 1) (.int .i64 ((N : Int) + 1))).run Tryz.prog w = .ok (.slice (some ⟨w.heap.size, 0, none⟩) 1 (N + 1)) wa := by
    have hr := run_make (P := Tryz.prog) w 22 3 i0 (.int .i64 0) Tryz.underlying22 hi hz0 .i64 .i64 1 ((N + 1 : Nat) : Int) (by omega) (by omega) (by rw [hz2]; omega) (by omega)
    simp only [Int.toNat_natCast, Int.toNat_one, hz1, Nat.mul_one] at hr
    rw [← hwa, show (N : Int) + 1 = ((N + 1 : Nat) : Int) by omega]; exact hr
  have hsa : wa.heap.size = w.heap.size + 1 := by rw [← hwa]; simp
  have hma : More w wa := by rw [← hwa]; exact more_alloc _ _
  have hrow0 : wa.ownsRow w.heap.size 3 1 (.slice (some ⟨w.heap.size, 0, none⟩) 1 (N + 1)) 1 (ints (sm f) 1) := by
    rw [← hwa]
    exact ⟨rfl, .inr ⟨w.heap.size, N + 1, madeCells #[.int .i64 0] (N + 1), rfl, Nat.le_refl _, heap_alloc_new w _, by omega, by unfold maxLen; omega, by rw [size_madeCells, Nat.mul_one], by
      rw [toList_madeCells_one, List.take_replicate, show min (1 * 1) (N + 1) = 1 by omega]; rfl⟩⟩
  obtain ⟨wb', hwb⟩ : ∃ wb', wa.alloc (.cells #[.slice none 0 0] 22) = wb' := ⟨_, rfl⟩
  have bb : Boxed wb' (w.heap.size + 1) 22 (.slice none 0 0) := by rw [← hwb, ← hsa]; exact Boxed.new _ _ _
  have hsb : wb'.heap.size = w.heap.size + 1 + 1 := by rw [← hwb]; simp [hsa]
  have hmb : More wa wb' := by rw [← hwb]; exact more_alloc _ _
  have cb := bb.cell
  have fb := bb.frozen
  obtain ⟨we, hwe⟩ : ∃ we, wb'.setCell ⟨w.heap.size + 1, 0, none⟩ (.slice (some ⟨w.heap.size, 0, none⟩) 1 (N + 1)) = we := ⟨_, rfl⟩
  have be1 : Boxed we (w.heap.size + 1) 22 (.slice (some ⟨w.heap.size, 0, none⟩) 1 (N + 1)) := by rw [← hwe]; exact bb.set _
  have hse : we.heap.size = w.heap.size + 1 + 1 := by rw [← hwe, ← hsb]; simp
  have hme : More wa we := by rw [← hwe]; exact hmb.setCell (p := ⟨w.heap.size + 1, 0, none⟩) (by first | (simp; done) | (simp; omega)) _
  have HH := Hid.mk (And.intro be1 (And.intro (More.trans hma hme) (And.intro (More.own hrow0 hme) (And.intro h hT))))
  have hN1 : IntKind.i64.wrap ((N : Int) + 1) = (N : Int) + 1 := by rw [IntKind.wrap_i64]; omega
  clear hT be1 hme hma hrow0 hmb bb h
  refine callsIn_of_wp_marks Tryz.func7 rfl trivial ?_ rfl
  simp only [Tryz.ntmps7, List.size_toArray, List.length_cons, List.length_nil, Nat.reduceAdd, Nat.reduceSub, Array.replicate_succ, Array.replicate_zero, List.push_toArray, List.append_toArray, List.nil_append, List.cons_append]
  gi_wp2_with (first
    | (refine ⟨trivial, ?_⟩; gi_at_call 12; refine (callsIn_wide.2 hlen).mono ?_; rintro e w' ⟨rfl, hw'⟩; subst w')
    | (refine ⟨trivial, ?_⟩; gi_at_call 26; refine (pall_call' _ _ _).mono ?_; rintro e w' ⟨rfl, hw'⟩; subst w'))
  obtain ⟨w1, hw1⟩ : ∃ w1, we.alloc (.cells #[.pointer p] 26) = w1 := ⟨_, rfl⟩
  have hm1 : More we w1 := by rw [← hw1]; exact more_alloc _ _
  have hs1 : w1.heap.size = w.heap.size + 1 + 1 + 1 := by rw [← hw1]; simp [hse]
  have b5 : Boxed w1 (w.heap.size + 1 + 1) 26 (.pointer p) := by rw [← hw1, ← hse]; exact Boxed.new _ _ _
  have hA1 := More.trans HH.out.2.1 hm1
  have st1 : SuI w w.heap.size p f 0 (fun k => k < w1.heap.size) w1 := ⟨⟨_, boxed_more HH.out.1 hm1, More.own HH.out.2.2.1 hm1, fun j hj => by simp [Value.ownBlock] at hj; subst hj; exact ⟨by omega, .inl rfl⟩⟩, b5, hA1, fun j hj => by rw [hs1]; exact hj, hA1.size⟩
  rw [hw1]
  clear hw1 hwa hwb hwe b5 cb fb hmake hlen hsa hsb hse
  refine range_set rfl h1 (gf := 61) (lb := #[.pointer (some ⟨w.heap.size + 1 + 1, 0, none⟩)]) rfl trivial (enters_of Tryz.func61 (by kernel_rfl) rfl)
    hseq (by omega) hA1 (fun _ => rfl)
    (fun pre E V => SuI w w.heap.size p f pre.length E V)
    (fun _ _ _ _ => False)
    (fun s E A A' h k => h.stay k (Nat.le_refl _))
    (fun _ _ _ _ _ h _ => h)
    (fun _ _ _ h => h.bs) st1
    (fun x => { tmps := #[.pointer (some ⟨wb, 0, none⟩), .pointer p, undef, undef, .pointer (some ⟨w.heap.size + 1, 0, none⟩), .int .i64 x.1, .int .i64 x.2, undef, undef, .pointer p, .int .i64 N, .int .i64 ((N : Int) + 1), .slice (some ⟨w.heap.size, 0, none⟩) 1 (N + 1), .pointer p, .func (.func 61) #[] #[.pointer (some ⟨w.heap.size + 1 + 1, 0, none⟩)], .int .i64 x.1, .int .i64 x.2, undef, undef, undef, undef, undef, undef, undef, undef, undef, undef, undef, undef, undef, undef, undef, undef, undef], defers := [] }) ?assign ?body ?done ?stop
  case assign =>
    intro l2 x V K' hK'
    gi_wp2
    exact hK'
  case body =>
    rintro l2 pre ⟨x1, x2⟩ V E ⟨c, hc, hSp⟩ st hwE hlw hszV hlenN
    obtain ⟨rfl, rfl, rfl⟩ := next_of hSp
    clear hSp
    obtain ⟨k, hk⟩ : ∃ k, pre.length = k := ⟨_, rfl⟩
    have HL : Hid (∀ x : Int × Int, (pre ++ [x]).length = k + 1) := Hid.mk fun x => by rw [List.length_append, List.length_singleton, hk]
    rw [hk] at st hlenN hc ⊢
    clear hk hseq hm1 hA1 st1
    obtain ⟨v, h2, h3, h4⟩ := st.row
    obtain ⟨g, cap, rfl, hgb, hgl⟩ := h3.form (by omega)
    have hcg := (h4 g rfl).1
    have hXt := Nat.le_trans (sm_mono f (show k + 1 ≤ N by omega)) htop
    obtain ⟨X, hX⟩ : ∃ X, sm f k = X := ⟨_, rfl⟩
    obtain ⟨Z, hZ⟩ : ∃ Z, f k = Z := ⟨_, rfl⟩
    obtain ⟨Y, hY⟩ : ∃ Y, X + Z = Y := ⟨_, rfl⟩
    have hsY : sm f (k + 1) = Y := by rw [sm, hX, hZ, hY]
    rw [hsY] at hXt
    have hYi : (X : Int) + (Z : Int) = (Y : Int) := by omega
    have hwY : IntKind.i64.wrap (Y : Int) = (Y : Int) := by rw [IntKind.wrap_i64]; omega
    obtain ⟨M, hM⟩ : ∃ M, k + 1 = M := ⟨_, rfl⟩
    have hkM : k < M := by omega
    have c3 : ∀ j, (V.drewN j).cell? ⟨w.heap.size + 1, 0, none⟩ = some (.slice (some ⟨g, 0, none⟩) M cap) := fun j => by rw [← hM]; exact (boxed_more h2 (More.drewN V j)).cell
    have ck : ∀ j, (V.drewN j).cell? ⟨g, k, none⟩ = some (.int .i64 X) := fun j => by
      have := (More.own h3 (More.drewN V j)).cellAt k (by omega)
      rw [ints_get _ _ _ (by omega), hX] at this
      exact this
    have c3a : ∀ j, ((V.drewN j).alloc (.cells #[.int .i64 Y] 3)).cell? ⟨w.heap.size + 1, 0, none⟩ = some (.slice (some ⟨g, 0, none⟩) M cap) := fun j => by rw [← hM]; exact (boxed_more (boxed_more h2 (More.drewN V j)) (more_alloc _ _)).cell
    have cka : ∀ j, ((V.drewN j).alloc (.cells #[.int .i64 Y] 3)).cell? ⟨g, k, none⟩ = some (.int .i64 X) := fun j => by
      have := (More.own (More.own h3 (More.drewN V j)) (more_alloc _ (.cells #[.int .i64 Y] 3))).cellAt k (by omega)
      rw [ints_get _ _ _ (by omega), hX] at this
      exact this
    rw [hZ]
    have HS := Hid.mk (And.intro st (And.intro h2 (And.intro h3 (And.intro h4 hsY))))
    have HM := Hid.mk hM
    have hsV := st.sz
    clear st h2 h3 h4 hX hZ hY hsY hc hM
    gi_wp2
    refine region_detS 8 17 2 [.slice (some ⟨g, 0, none⟩) M cap, .slice (some ⟨g, 0, none⟩) M cap, .int .i64 k, .pointer (some ⟨g, k, none⟩), .int .i64 X, .int .i64 Z, .int .i64 Y, .slice (some ⟨V.heap.size, 0, none⟩) 1 1]
      { tmps := #[.pointer (some ⟨wb, 0, none⟩), .pointer p, undef, undef, .pointer (some ⟨w.heap.size + 1, 0, none⟩), .int .i64 k, .int .i64 Z, undef, undef, .pointer p, .int .i64 N, .int .i64 ((N : Int) + 1), .slice (some ⟨w.heap.size, 0, none⟩) 1 (N + 1), .pointer p, .func (.func 61) #[] #[.pointer (some ⟨w.heap.size + 1 + 1, 0, none⟩)], .int .i64 k, .int .i64 Z, .slice (some ⟨g, 0, none⟩) M cap, .slice (some ⟨g, 0, none⟩) M cap, .int .i64 k, .pointer (some ⟨g, k, none⟩), .int .i64 X, .int .i64 Z, .int .i64 Y, .slice (some ⟨V.heap.size, 0, none⟩) 1 1, undef, undef, undef, undef, undef, undef, undef, undef, undef], defers := [] }
      (fun dn w' => (dn 7 = false ∧ ∃ j, w' = V.drewN j) ∨ (dn 7 = true ∧ ∃ j, w' = (V.drewN j).alloc (.cells #[.int .i64 Y] 3))) (by kernel_rfl) (detN_of (by kernel_rfl)) (by kernel_rfl) (Nat.le_of_ble_eq_true (by kernel_rfl)) (fun dn hdn => .inl ⟨hdn 7, 1, rfl⟩) ?step ?fin
    case step =>
      rintro i hi dn w' hdn (⟨h7, j, rfl⟩ | ⟨h7, j, rfl⟩)
      · have c3 := c3 j
        have ck := ck j
        rcases (show i = 0 ∨ i = 1 ∨ i = 2 ∨ i = 3 ∨ i = 4 ∨ i = 5 ∨ i = 6 ∨ i = 7 by omega) with rfl | rfl | rfl | rfl | rfl | rfl | rfl | rfl
        all_goals
          refine wpOpIn_step rfl (fun K hK => ?_)
          go_simp
        · exact hK _ _ ⟨rfl, rfl, .inl ⟨by simp [upd, h7], j, rfl⟩⟩
        · exact hK _ _ ⟨rfl, rfl, .inl ⟨by simp [upd, h7], j, rfl⟩⟩
        · exact hK _ _ ⟨rfl, rfl, .inl ⟨by simp [upd, h7], j, rfl⟩⟩
        · exact hK _ _ ⟨rfl, rfl, .inl ⟨by simp [upd, h7], j, rfl⟩⟩
        · exact hK _ _ ⟨rfl, rfl, .inl ⟨by simp [upd, h7], j, rfl⟩⟩
        · exact hK _ _ ⟨rfl, rfl, .inl ⟨by simp [upd, h7], j, rfl⟩⟩
        · exact hK _ _ ⟨rfl, rfl, .inl ⟨by simp [upd, h7], j, rfl⟩⟩
        · exact hK _ _ ⟨rfl, rfl, .inr ⟨by simp [upd], j, rfl⟩⟩
      · have c3 := c3a j
        have ck := cka j
        rcases (show i = 0 ∨ i = 1 ∨ i = 2 ∨ i = 3 ∨ i = 4 ∨ i = 5 ∨ i = 6 ∨ i = 7 by omega) with rfl | rfl | rfl | rfl | rfl | rfl | rfl | rfl
        · refine wpOpIn_step rfl (fun K hK => ?_)
          go_simp
          exact hK _ _ ⟨rfl, rfl, .inr ⟨by simp [upd, h7], j, rfl⟩⟩
        · refine wpOpIn_step rfl (fun K hK => ?_)
          go_simp
          exact hK _ _ ⟨rfl, rfl, .inr ⟨by simp [upd, h7], j, rfl⟩⟩
        · refine wpOpIn_step rfl (fun K hK => ?_)
          go_simp
          exact hK _ _ ⟨rfl, rfl, .inr ⟨by simp [upd, h7], j, rfl⟩⟩
        · refine wpOpIn_step rfl (fun K hK => ?_)
          go_simp
          exact hK _ _ ⟨rfl, rfl, .inr ⟨by simp [upd, h7], j, rfl⟩⟩
        · refine wpOpIn_step rfl (fun K hK => ?_)
          go_simp
          exact hK _ _ ⟨rfl, rfl, .inr ⟨by simp [upd, h7], j, rfl⟩⟩
        · refine wpOpIn_step rfl (fun K hK => ?_)
          go_simp
          exact hK _ _ ⟨rfl, rfl, .inr ⟨by simp [upd, h7], j, rfl⟩⟩
        · refine wpOpIn_step rfl (fun K hK => ?_)
          go_simp
          exact hK _ _ ⟨rfl, rfl, .inr ⟨by simp [upd, h7], j, rfl⟩⟩
        · rw [h7] at hdn; cases hdn
    case fin =>
      rintro dn w' hall (⟨h7, _⟩ | ⟨_, j, rfl⟩)
      · rw [hall 7 (by decide)] at h7; cases h7
      have hstj := HS.out.1.stay (V' := V.drewN j) (Stay.of_more (More.drewN V j) hwE) (Nat.le_refl _)
      have h2 := boxed_more HS.out.2.1 (More.drewN V j)
      have h3 := More.own HS.out.2.2.1 (More.drewN V j)
      have hwEj : Within E (V.drewN j) := hwE.more (More.drewN V j).size
      have htj : Turn w.heap.size E E V (V.drewN j) := (Turn.refl w.heap.size E (V.drewN j)).drawn
      have hsj : Hid ((V.drewN j).heap.size = V.heap.size) := Hid.mk rfl
      rw [← hsj.out] at hsV
      clear c3 ck c3a cka
      have hM' := HM.out
      rw [show (Value.slice (some ⟨V.heap.size, 0, none⟩) 1 1) = Value.slice (some ⟨(V.drewN j).heap.size, 0, none⟩) 1 1 from rfl]
      generalize V.drewN j = Vj at *
      refine opIn_append_at rfl rfl (.tmp 17) (.tmp 24) 22 rfl w.heap.size 3 i0 (.int .i64 0) 1 8 Tryz.underlying22 hi hz0 hz1 hz2 rfl (by decide) (.slice (some ⟨g, 0, none⟩) M cap) M (ints (sm f) M) rfl (by rw [← hM']; exact h3.alloc _) ⟨Vj.heap.size, 0, none⟩ 1 1 [.int .i64 (Y : Int)] rfl rfl (one_cell _ _ _) (one_i64 _) (by unfold maxLen; omega) (by omega) (by simp; omega) ?_
      intro v2 w2 hown2 hg2 hat2
      obtain ⟨_, _, _, h4, hsY⟩ := HS.out
      rw [show (Y : Int) = ((sm f M : Nat) : Int) by rw [← hM', hsY], ← ints_succ] at hown2
      have hVa : More Vj (Vj.alloc (.cells #[.int .i64 (Y : Int)] 3)) := more_alloc _ _
      have htu := turn_append (lo := w.heap.size) hVa hg2 (fun j hj => ⟨(h4 j hj).1, by have := (h4 j hj).2; omega⟩)
      have hbx : ∀ {j : Nat} {t : TypeId} {u : Value}, w.heap.size < j → j < w.heap.size + 1 + 1 + 1 → Boxed Vj j t u → Boxed w2 j t u := fun {j} {t} {u} ha hb hbb => by
        have hl := hbb.lt
        refine (hg2.block j (Nat.lt_of_lt_of_le hl hVa.size) (fun e => ?_)).trans ((hVa.block j hl).trans hbb)
        have := (h4 j e.symm).2
        omega
      have b3 := hbx (by omega) (by omega) h2
      have b5 := hbx (by omega) (by omega) hstj.bs
      have hv2 : ∀ j, v2.ownBlock = some j → (E j ∨ (Vj.heap.size ≤ j ∧ j < w2.heap.size)) ∧ (j = w.heap.size ∨ w.heap.size + 1 + 1 + 1 ≤ j) := fun j hj => by
        have hl := hown2.lt j hj
        rcases hat2 with h | h
        · rw [h] at hj
          exact ⟨.inl (h4 j hj).1, (h4 j hj).2⟩
        · rw [h] at hj
          have h5 : Vj.heap.size + 1 = j := by simpa using hj
          have h6 := hstj.bs.lt
          exact ⟨.inr ⟨by omega, hl.2⟩, .inr (by omega)⟩
      obtain ⟨a2, c2, rfl⟩ := shape_of hown2
      have d3 := b3.cell
      have g3 := b3.frozen
      have b33 := b3.set (.slice a2 (M + 1) c2)
      have b53 := b5.other (show w.heap.size + 1 + 1 ≠ w.heap.size + 1 by omega) (.slice a2 (M + 1) c2)
      have hown3 : (w2.setCell ⟨w.heap.size + 1, 0, none⟩ (.slice a2 (M + 1) c2)).ownsRow w.heap.size 3 1 (.slice a2 (M + 1) c2) (M + 1) (ints (sm f) (M + 1)) := hown2.kept (grownBy_setCell' w2 (w.heap.size + 1) _) (by
        cases hv : (Value.slice a2 (M + 1) c2).ownBlock with
        | none => exact .inl rfl
        | some j => exact .inr (fun e => by have h5 := (hv2 j hv).2; have h6 : j = w.heap.size + 1 := Option.some.inj e; omega))
      have htu3 := htu.setCell (p := ⟨w.heap.size + 1, 0, none⟩) (by first | (simp; done) | (simp; omega)) (.inl (hstj.low _ (by first | (simp; done) | (simp; omega)))) (.slice a2 (M + 1) c2)
      have hm3 : More w (w2.setCell ⟨w.heap.size + 1, 0, none⟩ (.slice a2 (M + 1) c2)) := Below.trans hstj.more (htu3.below hstj.sz)
      have HO := Hid.mk (show Turn w.heap.size E (fun k => E k ∨ (Vj.heap.size ≤ k ∧ k < w2.heap.size)) V (w2.setCell ⟨w.heap.size + 1, 0, none⟩ (.slice a2 (M + 1) c2)) ∧ SuI w w.heap.size p f (k + 1) (fun k => E k ∨ (Vj.heap.size ≤ k ∧ k < w2.heap.size)) (w2.setCell ⟨w.heap.size + 1, 0, none⟩ (.slice a2 (M + 1) c2)) from
        ⟨htj.trans htu3, ⟨⟨(.slice a2 (M + 1) c2), b33, by rw [hM']; exact hown3, hv2⟩, b53, hm3, fun j hj => .inl (hstj.low j hj), Nat.le_trans hm3.size (Nat.le_refl _)⟩⟩)
      clear hstj h2 h3 hwEj htj hVa htu hbx b3 b5 hv2 b33 b53 hown3 htu3 hm3 h4 hsY hown2 hg2 hat2 HS
      refine wpOpIn_step rfl (fun K hK => ?_)
      go_simp
      refine hK _ _ ?_
      refine ⟨_, HO.out.1, ?_⟩
      dsimp only
      rw [HL.out]
      exact HO.out.2
  case done =>
    rintro D ys E V hD hED rfl st hwE _ hKD
    rw [allZ_len] at st
    obtain ⟨v, h2, h3, h4⟩ := st.row
    have c3 := h2.cell
    have hnew := el_new v (N + 1) (sm f) V (zrd_own h3) (sm_climbs htop) (by omega)
    obtain ⟨g, cap, rfl, _, _⟩ := h3.form (by omega)
    have HV := Hid.mk (And.intro st.more (And.intro HH.out.2.2.2.1 (And.intro HH.out.2.2.2.2 hKD)))
    clear st h2 h3 h4 hseq hm1 hA1 st1 HH
    gi_wp2_with (first
      | (refine ⟨trivial, ?_⟩; gi_at_call 20; refine (callsIn_wide.2 hnew).mono ?_; rintro e w2 ⟨s, rfl, hs2, hm2⟩
         have hput := sb_putSeq base wb V.heap.size s (sm f) (N + 1) l w2 (HV.out.2.1.more (More.trans HV.out.1 hm2)) hb0 hs2 (More.tab HV.out.2.2.1 (More.trans HV.out.1 hm2)) (by omega) hl
         have H2 := Hid.mk hm2
         clear hs2 hm2 hnew)
      | (refine ⟨trivial, ?_⟩; gi_at_call 19; refine (callsIn_wide.2 hput).mono ?_; rintro e w3 ⟨rfl, hw3, hk3⟩; have H3 := Hid.mk (And.intro hw3 hk3); clear hw3 hk3 hput))
    have hKD3 := H3.out.2.marks _ _ (H2.out.at HV.out.2.2.2)
    refine leaves_set (C := fun j => j ≠ D) (B := w1.heap.size) (.cons (by omega) hKD3 (fun _ h => by cases h) .nil) (one_mark (fun h => h rfl)) fun w' hw' hb' => ⟨_, results_none rfl _ _ _, rfl, H3.out.1.off hKD3 hw', ?_⟩
    exact ((KeepsT.more (More.trans HV.out.1 H2.out) HV.out.2.1.sz).trans H3.out.2).behind (hb'.mono (by omega)) HV.out.2.1.sz
  case stop =>
    rintro D cc pre E V hD hED _ h _ _ _
    exact h.elim

end Go.Proofs.YtbjgbigalfhnjaaGreatDoor
