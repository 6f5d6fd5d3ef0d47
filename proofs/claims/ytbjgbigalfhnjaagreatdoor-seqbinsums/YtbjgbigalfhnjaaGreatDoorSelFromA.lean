/-
  seldir's From, walked: the ones from any one on, as long as it is told to go on.
-/
import Derived.Test.YtbjgbigalfhnjaaGreatDoorSelFrom
import Derived.Test.YtbjgbigalfhnjaaGreatDoorRangeSet
import Derived.BigQuiet
import Derived.Sort.QuietIn
namespace Go.Proofs.YtbjgbigalfhnjaaGreatDoor
open Go.RowKit Go.Shelf
attribute [local go_sem] Oper.semAt_some

theorem boxed_more {W W' : World} {B : Nat} {t : TypeId} {v : Value} (h : Boxed W B t v) (k : More W W') : Boxed W' B t v := (k.block B h.lt).trans h

theorem trP_snoc' {G : List (Int × Int)} (k q : Nat) (pre : List (Int × Int)) (x1 x2 : Int) : G ++ trP k q (pre ++ [(x1, x2)]) = (G ++ trP k q pre) ++ [(((k + pre.length : Nat) : Int), wrap64 ((q : Int) * 64 + x2))] := by
  rw [trP_snoc, List.append_assoc]

/-- lane.Pairs as a going over that may be left early, by sets. -/
theorem pairs_set (n : Nat) (hn : 1 ≤ n) (Bn lo X : Nat) (hX : X < 18446744073709551616) (h0n : 0 < lo) (w : World) (hB : Bn < w.heap.size) (hBn : w.cell? ⟨Bn, 0, none⟩ = some (.int .u64 X)) (hT : TabIn w) :
    SeqSet Fence.wide n Tryz.prog 106 #[.pointer (some ⟨Bn, 0, none⟩)] encP lo (fun _ => True) (fun xs => xs = allP X (rk X 64)) (fun pre => ∃ k, k ≤ rk X 64 ∧ pre = allP X k) (rk X 64) w := by
  intro l J Jx W C0 hW hC0 hlo _ _ _ hY h0
  refine (pairs1_in n hn l Bn lo X hX h0n (fun pre W1 => ∃ C, J pre C W1 ∧ Within C W1 ∧ W.heap.size ≤ W1.heap.size) (fun pre W1 => ∃ C, Jx pre C W1 ∧ Within C W1) (fun pre x W1 hSp hJ hlen => ?_) W ((hW.cell (p := ⟨Bn, 0, none⟩) hB).trans hBn) (More.tab hT hW) ⟨C0, h0, hC0, Nat.le_refl _⟩).mono ?_
  · obtain ⟨C, hJ1, hw, hs⟩ := hJ
    obtain ⟨fn, tmps, assign, body, hy, hRd⟩ := hY pre x W1 C hSp hJ1 hw hs hlen
    refine ⟨fn, tmps, assign, body, hy, hRd.mono ?_⟩
    rintro e W' ⟨C', (⟨he, h1, h2⟩ | ⟨he, h1, h2⟩)⟩
    · exact .inl ⟨he, ⟨C', h1, h2.within hw, Nat.le_trans hs h2.size⟩, h2.below (Nat.le_trans hlo hs)⟩
    · exact .inr ⟨he, C', h1, h2.within hw⟩
  · rintro e W' ⟨he, (⟨ys, hy, C, hJ, hw, _⟩ | ⟨pre, hp, C, hJ, hw⟩)⟩
    · exact ⟨he, .inl ⟨ys, C, hy, hJ, hw⟩⟩
    · exact ⟨he, .inr ⟨pre, C, hp, hJ, hw⟩⟩

/-- What From has laid, between two rounds; none of it is the caller's. -/
structure FrSt (B p6 : Nat) (wA : World) (l q : Nat) (ds : List Deferred) (C : Nat → Prop) (w : World) : Prop where
  b3 : Boxed w B 94 (.func (.yield l) #[] #[])
  b6 : Boxed w p6 3 (.int .i64 q)
  more : More wA w
  marks : Marks B w ds
  n3 : ¬ C B
  n4 : ¬ C (B + 1)
  n6 : ¬ C p6
  nm : ∀ d ∈ ds, ∀ D, d.target = .collected D → ¬ C D
  wi : Within C w
theorem FrSt.under {B b6 : Nat} {wA : World} {l q : Nat} {ds : List Deferred} {C E : Nat → Prop} {w w' : World} (h : FrSt B b6 wA l q ds C w) (k : Stay E w w') (hB : E B) (h6 : E b6) (hA : ∀ j, j < wA.heap.size → E j) (hd : ∀ d ∈ ds, ∀ D, d.target = .collected D → E D) : FrSt B b6 wA l q ds C w' :=
  ⟨k.boxed h.b3 hB, k.boxed h.b6 h6, Below.trans h.more (k.below hA), h.marks.stay k hd, h.n3, h.n4, h.n6, h.nm, h.wi.more k.size⟩
theorem FrSt.turn {B b6 : Nat} {wA : World} {l q : Nat} {ds : List Deferred} {C C' : Nat → Prop} {w w' : World} (h : FrSt B b6 wA l q ds C w) (k : Turn wA.heap.size C C' w w') (h4 : B + 1 < w.heap.size) : FrSt B b6 wA l q ds C' w' :=
  ⟨k.boxed h.b3 h.n3, k.boxed h.b6 h.n6, Below.trans h.more (k.below h.more.size), h.marks.turn k h.nm, k.off h.n3 h.b3.lt, k.off h.n4 h4, k.off h.n6 h.b6.lt, fun d hd D he => k.off (h.nm d hd D he) (by
    obtain ⟨D', he', hl⟩ := h.marks.lt d hd
    rw [he] at he'; cases he'; exact hl), k.within h.wi⟩
theorem FrSt.set {B b6 : Nat} {wA : World} {l q : Nat} {ds : List Deferred} {C : Nat → Prop} {w : World} (h : FrSt B b6 wA l q ds C w) (b : Nat) (v : Value) (h1 : B ≠ b) (h2 : b6 ≠ b) (h3 : wA.heap.size ≤ b) : FrSt B b6 wA l q ds C (w.setCell ⟨b, 0, none⟩ v) :=
  ⟨h.b3.other h1 v, h.b6.other h2 v, h.more.setCell (p := ⟨b, 0, none⟩) h3 v, h.marks.setCell _ _, h.n3, h.n4, h.n6, h.nm, h.wi.more (KeepsOthers.setCell w _ _).size⟩

set_option maxRecDepth 1000000 in
set_option maxHeartbeats 4000000 in
theorem from_in (n : Nat) (hn : 4 ≤ n) (Bk Bd base d V N : Nat) (k : Int) (wA wB : World) (hAB : More wA wB) (hA : SDirAt wA base d V N) (bkB : Boxed wB Bk 3 (.int .i64 k)) (bdB : Boxed wB Bd 87 (.pointer (some ⟨d, 0, none⟩))) (hT : TabIn wA) :
    SeqSet Fence.wide n Tryz.prog 102 #[.pointer (some ⟨Bk, 0, none⟩), .pointer (some ⟨Bd, 0, none⟩)] encP wA.heap.size (fun _ => True) (fun xs => xs = goL V N k.toNat (rk V N - k.toNat)) (fun pre => ∃ c, c ≤ rk V N - k.toNat ∧ pre = goL V N k.toNat c) (rk V N - k.toNat) wB := by
  intro l J Jx W C0 hWB hC0 _ hJ hJx _ hY h0
  have hW := More.trans hAB hWB
  have bk := boxed_more bkB hWB
  have bd := boxed_more bdB hWB
  clear bkB bdB hWB hAB
  have h1 : 1 ≤ n := by omega
  obtain ⟨w0, hw0⟩ : ∃ w0, W.alloc (.cells #[.func (.yield l) #[] #[]] 94) = w0 := ⟨_, rfl⟩
  have hm0 : More W w0 := by rw [← hw0]; exact more_alloc _ _
  have b3 : Boxed w0 W.heap.size 94 (.func (.yield l) #[] #[]) := by rw [← hw0]; exact Boxed.new _ _ _
  have hs0 : w0.heap.size = W.heap.size + 1 := by rw [← hw0]; simp
  have hA0 := More.trans hW hm0
  have ck := (hm0.cell (p := ⟨Bk, 0, none⟩) bk.lt).trans bk.cell
  have hmax : max k 0 = (k.toNat : Int) := by omega
  obtain ⟨K, hK⟩ : ∃ K, k.toNat = K := ⟨_, rfl⟩
  rw [hK] at hmax hY ⊢
  obtain ⟨w1, hw1⟩ : ∃ w1, w0.alloc (.cells #[.int .i64 K] 3) = w1 := ⟨_, rfl⟩
  have hm1 : More w0 w1 := by rw [← hw1]; exact more_alloc _ _
  have b4 : Boxed w1 (W.heap.size + 1) 3 (.int .i64 K) := by rw [← hw1, ← hs0]; exact Boxed.new _ _ _
  have hA1 := More.trans hA0 hm1
  have cd := ((More.trans hm0 hm1).cell (p := ⟨Bd, 0, none⟩) bd.lt).trans bd.cell
  have c4 := b4.cell
  have f4 := b4.frozen
  have hone : ∀ w2, More W w2 → Calls Tryz.prog 60 #[.pointer (some ⟨d, 0, none⟩), .int .i64 K] w2 fun e w' => e = .returned (.int .i64 (sel V K N)) ∧ More w2 w' := fun w2 hm => sdir_one d V N K base w2 (hA.more (More.trans hW hm))
  have HH := Hid.mk (And.intro hA (And.intro bk (And.intro bd (And.intro hT (And.intro hW (And.intro (boxed_more b3 hm1) (And.intro b4 (And.intro (More.trans hm0 hm1) hA1))))))))
  clear hA bk bd hT hK hm0 hm1 hA0 hA1 b3 b4
  by_cases hKr : rk V N ≤ K
  · rw [sel_outN V K N (by omega)] at hone
    refine callsIn_of_wp_marks Tryz.func102 rfl trivial ?_ rfl
    simp only [Tryz.ntmps102, List.size_toArray, List.length_cons, List.length_nil, Nat.reduceAdd, Nat.reduceSub, Array.replicate_succ, Array.replicate_zero, List.push_toArray, List.append_toArray, List.nil_append, List.cons_append]
    gi_wp2_with (refine ⟨trivial, ?_⟩; gi_at_call 60; refine (callsIn_wide.2 (hone _ HH.out.2.2.2.2.2.2.2.1)).mono ?_; rintro e w2 ⟨rfl, hm⟩; have H2 := Hid.mk hm; clear hm)
    have hM2 := More.trans HH.out.2.2.2.2.2.2.2.1 H2.out
    refine ⟨_, results_none rfl _ _ _, ⟨_, rfl⟩, .inl ⟨_, C0, rfl, ?_, hC0.more hM2.size⟩⟩
    rw [show rk V N - K = 0 by omega]
    exact hJ _ _ _ _ h0 (Stay.of_more hM2 hC0)
  obtain ⟨A, hAN, hAb, hAk⟩ := sel_in V N K (by omega)
  rw [sel_of V K N A hAN hAb (by omega)] at hone
  obtain ⟨q, hq⟩ : ∃ q, A / 64 = q := ⟨_, rfl⟩
  obtain ⟨m, hm⟩ : ∃ m, A % 64 = m := ⟨_, rfl⟩
  have e1 : (A : Int) / 64 = q := by omega
  have e1' : (A : Int).tdiv 64 = q := by rw [Int.tdiv_eq_ediv_of_nonneg (by omega)]; exact e1
  have e2 : (A : Int) % 64 = m := by omega
  have hNb := HH.out.1.len
  have hqb : q ≤ 17179869184 := by omega
  have hm63 : m ≤ 63 := by omega
  have hma := fun w => mask m w
  rw [show min 64 (m : Int).toNat = m by omega] at hma
  have hp := pow_le64 (show m ≤ 64 by omega)
  have H1 := Hid.mk (And.intro hAk (And.intro (show A = 64 * q + m by omega) hAN))
  clear hAb hAk hq hm hAN
  refine callsIn_of_wp_marks Tryz.func102 rfl trivial ?_ rfl
  simp only [Tryz.ntmps102, List.size_toArray, List.length_cons, List.length_nil, Nat.reduceAdd, Nat.reduceSub, Array.replicate_succ, Array.replicate_zero, List.push_toArray, List.append_toArray, List.nil_append, List.cons_append]
  gi_wp2_with (first
    | (refine ⟨trivial, ?_⟩; gi_at_call 60; refine (callsIn_wide.2 (hone _ HH.out.2.2.2.2.2.2.2.1)).mono ?_; rintro e w2 ⟨rfl, hm⟩; have H2 := Hid.mk hm; clear hm)
    | (refine ⟨trivial, ?_⟩; gi_at_call 71; refine (callsIn_wide.2 (hma _)).mono ?_; rintro e w' ⟨rfl, hw'⟩; subst w'))
  obtain ⟨w3, hw3⟩ : ∃ w3, w2.alloc (.cells #[.int .i64 q] 3) = w3 := ⟨_, rfl⟩
  have hm3 : More w2 w3 := by rw [← hw3]; exact more_alloc _ _
  have b6 : Boxed w3 w2.heap.size 3 (.int .i64 q) := by rw [← hw3]; exact Boxed.new _ _ _
  have h13 : More w1 w3 := More.trans H2.out hm3
  have hA3 : More wA w3 := More.trans HH.out.2.2.2.2.2.2.2.2 h13
  have hW3 : More W w3 := More.trans HH.out.2.2.2.2.2.2.2.1 h13
  have b3 := boxed_more HH.out.2.2.2.2.2.1 h13
  have b4 := boxed_more HH.out.2.2.2.2.2.2.1 h13
  have bd := HH.out.2.2.1
  have cd3 := (hW3.cell (p := ⟨Bd, 0, none⟩) bd.lt).trans bd.cell
  have c6 := b6.cell
  obtain ⟨vv, _, hbd, hv, _⟩ := HH.out.1.mem
  obtain ⟨cw, _⟩ := cells3 hbd
  have hqK : q < nw N := by have := H1.out; unfold nw; omega
  obtain ⟨g, cv, rfl, hg, hcv⟩ := own_at hv (by omega)
  have c0 := (hA3.cell (p := ⟨d, 0, none⟩) (World.block_lt_of_cell? wA _ cw)).trans cw
  have hKb : nw N ≤ 17179869185 := by unfold nw; omega
  have hcq : ¬ cv = q := by omega
  have hNw : Hid (N ≤ 64 * nw N) := Hid.mk (by unfold nw; omega)
  have hgw := hg
  obtain ⟨M, hM⟩ : ∃ M, nw N = M := ⟨_, rfl⟩
  rw [hM] at c0 hqK hKb hgw hNw
  have hqM : q ≤ M := by omega
  rw [hw3]
  have H3 := Hid.mk (And.intro hgw (And.intro hA3 (And.intro hW3 (And.intro b3 (And.intro b4 (And.intro b6 hM))))))
  clear hg hgw hv hbd cw hA3 hW3 h13 hm3 b3 b4 b6 bd hM hw3 ck cd c4 f4 hcv
  gi_quiet (fail)
  gi_wp2
  have H4 := Hid.mk (And.intro (H3.out.2.1) (And.intro (More.trans H3.out.2.2.1 (More.drewN w3 nq)) (And.intro (boxed_more H3.out.2.2.2.1 (More.drewN w3 nq)) (And.intro (boxed_more H3.out.2.2.2.2.1 (More.drewN w3 nq)) (And.intro (boxed_more H3.out.2.2.2.2.2.1 (More.drewN w3 nq)) (More.trans H3.out.2.1 (More.drewN w3 nq)))))))
  generalize w3.drewN nq = w4 at *
  have hB2 : W.heap.size + 2 ≤ w2.heap.size := by have h1 := H2.out.size; have h2 := HH.out.2.2.2.2.2.2.1.lt; omega
  have hAW := HH.out.2.2.2.2.1.size
  refine wpIn_loop (fun a' w' => ∃ u7 u8 u9 u31 u32 u33 u34 u35 u36 u37 u38 u39 u54 ds, (∃ j mm c : Nat, u31 = .int .i64 j ∧ u7 = .int .u64 (2 ^ mm - 1 : Nat) ∧ j ≤ M - q ∧ (j = 0 ∧ mm = m ∨ 0 < j ∧ mm = 0) ∧ Hid (∃ C, K + c = rk V (64 * (q + j) + mm) ∧ J (goL V N K c) C w' ∧ Boxed w' (W.heap.size + 1) 3 (.int .i64 (K + c : Nat)) ∧ FrSt W.heap.size w2.heap.size wA l q ds C w' ∧ w2.heap.size < w'.heap.size)) ∧ a' = Act.mk #[.func (.yield l) #[] #[], .pointer (some ⟨Bk, 0, none⟩), .pointer (some ⟨Bd, 0, none⟩), .pointer (some ⟨W.heap.size, 0, none⟩), .pointer (some ⟨W.heap.size + 1, 0, none⟩), .int .i64 A, .pointer (some ⟨w2.heap.size, 0, none⟩), u7, u8, u9, undef, undef, .int .i64 k, .int .i64 K, .pointer (some ⟨d, 0, none⟩), .int .i64 K, .int .i64 A, .int .i64 A, .bool (decide ((A : Int) < 0)), .int .i64 A, .int .i64 q, .int .i64 A, .int .i64 m, .int .u64 (2 ^ m - 1 : Nat), .pointer (some ⟨d, 0, none⟩), .pointer (some ⟨d, 0, none⟩), .pointer (some ⟨d, 0, none⟩), .slice (some ⟨g, 0, none⟩) M cv, .int .i64 q, .slice (some ⟨g, q, none⟩) (M - q) (cv - q), .int .i64 (M - q : Nat), u31, u32, u33, u34, u35, u36, u37, u38, u39, undef, undef, undef, undef, undef, undef, undef, undef, undef, undef, undef, undef, undef, undef, u54] ds)
    (fun a' _ => M - q - (intOf (a'.tmps.getD 31 undef)).toNat) ?start ?round
  case start =>
    refine ⟨_, _, _, _, _, _, _, _, _, _, _, _, _, _, ⟨0, m, 0, rfl, rfl, Nat.zero_le _, .inl ⟨rfl, rfl⟩, Hid.mk ⟨C0, ?_, ?_, ?_, ?_, ?_⟩⟩, rfl⟩
    · have := H1.out; rw [Nat.add_zero, Nat.add_zero, ← this.2.1, this.1]
    · exact hJ _ _ _ _ h0 (Stay.of_more H4.out.2.1 hC0)
    · exact H4.out.2.2.2.1
    · exact ⟨H4.out.2.2.1, H4.out.2.2.2.2.1, H4.out.2.2.2.2.2, .nil, (fun h => by have := hC0 _ h; omega), (fun h => by have := hC0 _ h; omega), (fun h => by have := hC0 _ h; omega), (fun _ h => by cases h), hC0.more H4.out.2.1.size⟩
    · exact H4.out.2.2.2.2.1.lt
  case round =>
    rintro _ wr ⟨u7, u8, u9, u31, u32, u33, u34, u35, u36, u37, u38, u39, u54, ds, ⟨j, mm, c, rfl, rfl, hj, hjm, HR⟩, rfl⟩
    have hmm : mm ≤ 63 := by omega
    by_cases hjM : j < M - q
    · obtain ⟨C, hKc, hJr, b4r, str, hsr⟩ := HR.out
      have hx := (str.more.cell (p := ⟨g, q + j, none⟩) (World.block_lt_of_cell? wA _ (H3.out.1 (q + j) (by omega)))).trans (H3.out.1 (q + j) (by omega))
      have hX := wd_lt V (q + j)
      have hand := andNot_cut (wd V (q + j)) mm hX (by omega)
      have hYl := Nat.lt_of_le_of_lt (cutLow_le (wd V (q + j)) mm) hX
      have hpc := fun w => pairs_call (n - 1) (cutLow (wd V (q + j)) mm) w
      obtain ⟨X, hXe⟩ : ∃ X, wd V (q + j) = X := ⟨_, rfl⟩
      rw [hXe] at hx hX hand hYl hpc
      obtain ⟨Y, hYe⟩ : ∃ Y, cutLow X mm = Y := ⟨_, rfl⟩
      rw [hYe] at hand hYl hpc
      have HX := Hid.mk (And.intro hXe hYe)
      clear hXe hYe hone hma
      have HHR := Hid.mk (And.intro hKc (And.intro hJr (And.intro b4r str)))
      clear hKc hJr b4r str
      gi_wp2_with (refine ⟨trivial, ?_⟩; gi_at_call 103; refine (hpc _).mono ?_; rintro e w' ⟨rfl, hw'⟩; subst w')
      obtain ⟨w6, hw6⟩ : ∃ w6, (wr.alloc (.cells #[.int .i64 j] 3)).alloc (.cells #[.int .u64 Y] 68) = w6 := ⟨_, rfl⟩
      have hm6 : More wr w6 := by rw [← hw6]; exact (more_alloc wr _).alloc (more_alloc wr _).size _
      have hs6 : w6.heap.size = wr.heap.size + 2 := by rw [← hw6]; simp
      have b8 : Boxed w6 wr.heap.size 3 (.int .i64 j) := by rw [← hw6]; exact (Boxed.new wr _ _).alloc _
      have b9 : Boxed w6 (wr.heap.size + 1) 68 (.int .u64 Y) := by
        have := Boxed.new (wr.alloc (.cells #[.int .i64 j] 3)) 68 (.int .u64 Y)
        rw [World.size_alloc] at this
        rw [← hw6]; exact this
      obtain ⟨hKc, hJr, b4r, str⟩ := HHR.out
      have J6 : J (goL V N K c) C w6 := hJ _ _ _ _ hJr (Stay.of_more hm6 str.wi)
      have b46 := boxed_more b4r hm6
      have st6 := str.under (E := fun k => k < wr.heap.size) (Stay.of_more hm6 fun _ h => h) str.b3.lt str.b6.lt (fun j hj => Nat.lt_of_lt_of_le hj str.more.size) (str.marks.lt' (Nat.le_refl _))
      have n8 : ¬ C wr.heap.size := fun h => by have := str.wi _ h; omega
      have hds := st6.marks.lt' (Nat.le_refl _)
      have hT6 : TabIn w6 := More.tab HH.out.2.2.2.1 st6.more
      have hA1 : 1 ≤ wA.heap.size := World.block_lt_of_cell? wA _ (HH.out.2.2.2.1 0 (by decide))
      have hcap : K + c + rk Y 64 = rk V (64 * (q + j + 1)) := by
        have h := part_rk V (q + j) mm (by omega)
        rw [HX.out.1, HX.out.2] at h
        omega
      have hcap2 : rk V (64 * (q + j + 1)) ≤ rk V N := by
        have h1 := rk_words (V := V) (n := N) HH.out.1.fit
        rw [H3.out.2.2.2.2.2.2] at h1
        rw [← h1]; exact rk_mono V (by omega)
      have hall : ∀ cc, cc ≤ rk Y 64 → goL V N K c ++ trP (K + c) (q + j) (allP Y cc) = goL V N K (c + cc) := fun cc hcc => by
        have h := trP_all V N (q + j) mm K c cc HH.out.1.fit (by omega) (by omega) hKc (by rw [HX.out.1, HX.out.2]; exact hcc)
        rw [HX.out.1, HX.out.2] at h
        exact h
      have hr64 := rk_le Y 64
      have hkc : K + c ≤ N := by rw [hKc]; exact Nat.le_trans (rk_mono V (show 64 * (q + j) + mm ≤ 64 * (q + j + 1) by omega)) (Nat.le_trans hcap2 (rk_le _ _))
      rw [hw6]
      have HKc := Hid.mk hKc
      have Hcap := Hid.mk hcap
      have hcap3 : K + c + rk Y 64 ≤ rk V N := by omega
      clear hw6 hJr b4r str hx hand hpc hKc hcap
      refine range_set rfl h1 (gf := 106) (lb := #[.pointer (some ⟨wr.heap.size + 1, 0, none⟩)]) rfl trivial (enters_of Tryz.func106 (by kernel_rfl) rfl)
        (pairs_set (n - 1) (by omega) (wr.heap.size + 1) wA.heap.size Y hYl (by omega) w6 b9.lt b9.cell hT6) (by omega) (Below.refl _ _) (fun _ => rfl)
        (fun pre E V' => ∃ C, J (goL V N K c ++ trP (K + c) (q + j) pre) C V' ∧ Boxed V' (W.heap.size + 1) 3 (.int .i64 (K + c + pre.length : Nat)) ∧ Boxed V' wr.heap.size 3 (.int .i64 j) ∧ FrSt W.heap.size w2.heap.size wA l q ds C V' ∧ w6.heap.size ≤ V'.heap.size ∧ ¬ C wr.heap.size ∧ (∀ k, C k → E k) ∧ (∀ k, k < w6.heap.size → E k))
        (fun cc pre E V' => cc = .ret ∧ ∃ C, Jx (goL V N K c ++ trP (K + c) (q + j) pre) C V' ∧ Marks W.heap.size V' ds ∧ w6.heap.size ≤ V'.heap.size ∧ (∀ d ∈ ds, ∀ D, d.target = .collected D → ¬ C D) ∧ Within C V' ∧ (∀ k, C k → E k) ∧ (∀ k, k < w6.heap.size → E k))
        (fun s E A A' ⟨C, h1, h2, h3, h4, h5, h6, h7, h8⟩ k => ⟨C, hJ _ _ _ _ h1 (k.sub h7), k.boxed h2 (h8 _ (by omega)), k.boxed h3 (h8 _ (by omega)), h4.under k (h8 _ (by omega)) (h8 _ (by omega)) (fun j hj => h8 j (by omega)) (fun d hd D he => h8 D (hds d hd D he)), Nat.le_trans h5 k.size, h6, h7, h8⟩)
        (fun cc s E A A' ⟨h0, C, h1, h2, h3, h4, h5, h6, h7⟩ k => ⟨h0, C, hJx _ _ _ _ h1 (k.sub h6), h2.stay k (fun d hd D he => h7 D (hds d hd D he)), Nat.le_trans h3 k.size, h4, h5.more k.size, h6, h7⟩)
        (fun _ _ _ _ => trivial) ⟨C, by simpa [trP] using J6, b46, b8, st6, Nat.le_refl _, n8, (fun k hk => st6.wi k hk), (fun _ h => h)⟩
        (fun x => { tmps := #[.func (.yield l) #[] #[], .pointer (some ⟨Bk, 0, none⟩), .pointer (some ⟨Bd, 0, none⟩), .pointer (some ⟨W.heap.size, 0, none⟩), .pointer (some ⟨W.heap.size + 1, 0, none⟩), .int .i64 A, .pointer (some ⟨w2.heap.size, 0, none⟩), .int .u64 (2 ^ mm - 1 : Nat), .pointer (some ⟨wr.heap.size, 0, none⟩), .int .u64 X, undef, .int .i64 x.2, .int .i64 k, .int .i64 K, .pointer (some ⟨d, 0, none⟩), .int .i64 K, .int .i64 A, .int .i64 A, .bool (decide ((A : Int) < 0)), .int .i64 A, .int .i64 q, .int .i64 A, .int .i64 m, .int .u64 (2 ^ m - 1 : Nat), .pointer (some ⟨d, 0, none⟩), .pointer (some ⟨d, 0, none⟩), .pointer (some ⟨d, 0, none⟩), .slice (some ⟨g, 0, none⟩) M cv, .int .i64 q, .slice (some ⟨g, q, none⟩) (M - q) (cv - q), .int .i64 (M - q : Nat), .int .i64 j, .bool true, .int .i64 j, .pointer (some ⟨g, q + j, none⟩), .int .u64 X, .int .u64 X, .int .u64 (2 ^ mm - 1 : Nat), .int .u64 Y, .func (.func 106) #[] #[.pointer (some ⟨wr.heap.size + 1, 0, none⟩)], .int .i64 x.1, .int .i64 x.2, undef, undef, undef, undef, undef, undef, undef, undef, undef, undef, undef, undef, u54], defers := [] }) ?assign ?body ?done ?stop
      case assign =>
        intro l2 x W' K' hK'
        gi_wp2
        exact hK'
      case body =>
        rintro l2 pre ⟨x1, x2⟩ V' E hSp ⟨C, hJs, b4, b8, st, hsz, n8, hCE, hE⟩ hwE _ hszV hlen
        have hd : 1 ≤ n - 1 - 1 := by omega
        have c3 := st.b3.cell
        have c4 := b4.cell
        have c6 := st.b6.cell
        have c8 := b8.cell
        obtain ⟨fn, tmps, assign, body, hy, hRd⟩ := hY (goL V N K c ++ trP (K + c) (q + j) pre) (((K + c + pre.length : Nat) : Int), wrap64 (((q + j : Nat) : Int) * 64 + x2)) V' C (by obtain ⟨kk, hkk, he⟩ := hSp; exact ⟨c + kk, by omega, by rw [← trP_snoc' (K + c) (q + j) pre x1 x2, he]; exact hall kk hkk⟩) hJs st.wi (by omega) (by rw [List.length_append, goL_len, trP_len]; omega)
        dsimp only [encP] at hy
        rw [Int.natCast_add (K + c) pre.length, Int.natCast_add K c] at hy
        rw [← trP_snoc' (K + c) (q + j) pre x1 x2] at hRd
        rw [Int.natCast_add q j] at hy
        have hRd' := RoundIn.within (m' := n - 1 - 1 - 1) (l2 := l2) hRd
        clear hRd hY
        gi_wp2
        refine hRd'.mono ?_
        clear hRd' hy
        rintro e W3 ⟨C', (⟨rfl, hJ3, ho3⟩ | ⟨rfl, hJx3, ho3⟩)⟩
        · have hb4 : W.heap.size + 1 < V'.heap.size := b4.lt
          have b43 := ho3.boxed b4 st.n4
          have c43 := b43.cell
          have f43 := b43.frozen
          have st3' := st.turn ho3 hb4
          have st3 := st3'.set (W.heap.size + 1) (.int .i64 (K + c + (pre ++ [(x1, x2)]).length : Nat)) (by omega) (by omega) (by omega)
          have b83 := (ho3.boxed b8 n8).other (show wr.heap.size ≠ W.heap.size + 1 by omega) (.int .i64 (K + c + (pre ++ [(x1, x2)]).length : Nat))
          have b45 := b43.set (.int .i64 (K + c + (pre ++ [(x1, x2)]).length : Nat))
          have hz : Hid ((K : Int) + c + pre.length + 1 = ((K + c + (pre ++ [(x1, x2)]).length : Nat) : Int)) := Hid.mk (by simp; omega)
          have hon := (ho3.wide hCE).setCell (p := ⟨W.heap.size + 1, 0, none⟩) (show wA.heap.size ≤ W.heap.size + 1 by omega) (.inl (hE _ (show W.heap.size + 1 < w6.heap.size by omega))) (.int .i64 (K + c + (pre ++ [(x1, x2)]).length : Nat))
          have hJ5 := hJ _ _ _ _ hJ3 ((Stay.refl C' W3).setCell (p := ⟨W.heap.size + 1, 0, none⟩) st3'.n4 (.int .i64 (K + c + (pre ++ [(x1, x2)]).length : Nat)))
          have hsz3 : w6.heap.size ≤ (W3.setCell ⟨W.heap.size + 1, 0, none⟩ (.int .i64 (K + c + (pre ++ [(x1, x2)]).length : Nat))).heap.size := Nat.le_trans (Nat.le_trans hsz ho3.size) (KeepsOthers.setCell W3 _ _).size
          have n8' := ho3.off n8 b8.lt
          have hCE' := ho3.wider hCE
          have hE' : ∀ k, k < w6.heap.size → E k ∨ (V'.heap.size ≤ k ∧ k < W3.heap.size) := fun k hk => .inl (hE k hk)
          have HZ := Hid.mk (And.intro st3 (And.intro b83 (And.intro b45 (And.intro hon (And.intro hJ5 (And.intro hsz3 (And.intro n8' (And.intro hCE' hE'))))))))
          clear st3 st3' b83 b45 hon hJ5 hsz3 hJ3 ho3 b43 n8' hCE' hE'
          gi_wp2
          rw [hz.out]
          exact ⟨_, HZ.out.2.2.2.1, C', HZ.out.2.2.2.2.1, HZ.out.2.2.1, HZ.out.2.1, HZ.out.1, HZ.out.2.2.2.2.2.1, HZ.out.2.2.2.2.2.2.1, HZ.out.2.2.2.2.2.2.2.1, HZ.out.2.2.2.2.2.2.2.2⟩
        · have st3 := st.marks.turn ho3 st.nm
          have hnm : ∀ d ∈ ds, ∀ D, d.target = .collected D → ¬ C' D := fun d hd D he => ho3.off (st.nm d hd D he) (by have := hds d hd D he; omega)
          have hon := ho3.wide hCE
          have hwi := ho3.within st.wi
          have hCE' := ho3.wider hCE
          have HZ := Hid.mk (And.intro hon (And.intro hJx3 (And.intro st3 (And.intro (Nat.le_trans hsz ho3.size) (And.intro hnm (And.intro hwi hCE'))))))
          clear hon hJx3 st3 hnm hwi hCE' ho3
          gi_wp2
          exact ⟨_, HZ.out.1, rfl, C', HZ.out.2.1, HZ.out.2.2.1, HZ.out.2.2.2.1, HZ.out.2.2.2.2.1, HZ.out.2.2.2.2.2.1, HZ.out.2.2.2.2.2.2, fun k hk => .inl (hE k hk)⟩
      case done =>
        rintro D ys E V' hD hED rfl ⟨C, hJs, b4, b8, st, hsz, n8, hCE, hE⟩ _ _ hKD
        rw [hall _ (Nat.le_refl _)] at hJs
        rw [allP_len] at b4
        gi_wp2
        refine ⟨⟨_, _, _, _, _, _, _, _, _, _, _, _, _, _, ⟨j + 1, 0, c + rk Y 64, by go_num, by simp, by omega, .inr ⟨by omega, rfl⟩, Hid.mk ⟨C, ?_, hJs, by rw [← Nat.add_assoc]; exact b4, ?_, by omega⟩⟩, rfl⟩, by simp [intOf]; omega⟩
        · rw [Nat.add_zero, ← Nat.add_assoc, Hcap.out, Nat.add_assoc]
        · refine ⟨st.b3, st.b6, st.more, .cons (by omega) hKD (fun d hd he => by have := hds d hd D he; omega) st.marks, st.n3, st.n4, st.n6, fun d hd D' he => ?_, st.wi⟩
          rcases List.mem_cons.1 hd with rfl | hd
          · cases he
            exact fun h => hED (hCE _ h)
          · exact st.nm d hd D' he
      case stop =>
        rintro D cc pre E V' hD hED ⟨kk, hkk, rfl⟩ ⟨rfl, C, hjx, hmk, hsz, hnm, hwi, hCE, hE⟩ _ _ hKD
        rw [hall _ hkk] at hjx
        have hnm' : ∀ d ∈ ({ target := .collected D, args := #[] } : Deferred) :: ds, ∀ D', d.target = .collected D' → ¬ C D' := fun d hd D' he => by
          rcases List.mem_cons.1 hd with rfl | hd
          · cases he
            exact fun h => hED (hCE _ h)
          · exact hnm d hd D' he
        gi_wp2
        refine leaves_set (C := C) (.cons (by omega) hKD (fun d hd he => by have := hds d hd D he; omega) hmk) hnm' fun w' hw' _ => ⟨_, results_none rfl _ _ _, ⟨_, rfl⟩, .inr ⟨_, C, ⟨c + kk, by omega, rfl⟩, hJx _ _ _ _ hjx hw', hwi.stay hw'⟩⟩
    · obtain rfl : j = M - q := by omega
      obtain ⟨C, hKc, hJr, b4r, str, hsr⟩ := HR.out
      have hmm0 : mm = 0 := by omega
      subst hmm0
      have hc : c = rk V N - K := by
        have h1 := rk_words (V := V) (n := N) HH.out.1.fit
        rw [H3.out.2.2.2.2.2.2] at h1
        rw [Nat.add_zero, show q + (M - q) = M by omega, h1] at hKc
        omega
      rw [hc] at hJr
      gi_wp2
      refine leaves_set (C := C) str.marks str.nm fun w' hw' _ => ⟨_, results_none rfl _ _ _, ⟨_, rfl⟩, .inl ⟨C, hJ _ _ _ _ hJr hw', str.wi.stay hw'⟩⟩

theorem from1_in (n : Nat) (hn : 4 ≤ n) (Bk Bd base d V N : Nat) (k : Int) (wA : World) (hA : SDirAt wA base d V N) (bk : Boxed wA Bk 3 (.int .i64 k)) (bd : Boxed wA Bd 87 (.pointer (some ⟨d, 0, none⟩))) (hT : TabIn wA) :
    SeqSet Fence.wide n Tryz.prog 102 #[.pointer (some ⟨Bk, 0, none⟩), .pointer (some ⟨Bd, 0, none⟩)] encP wA.heap.size (fun _ => True) (fun xs => xs = goL V N k.toNat (rk V N - k.toNat)) (fun pre => ∃ c, c ≤ rk V N - k.toNat ∧ pre = goL V N k.toNat c) (rk V N - k.toNat) wA :=
  from_in n hn Bk Bd base d V N k wA wA (Below.refl _ _) hA bk bd hT

end Go.Proofs.YtbjgbigalfhnjaaGreatDoor
