/-
  seldir's From, walked: the ones from any one on, as long as it is told to go on.
-/
import Derived.Test.YtgcaenpflndibaaDoorSelFrom
import Derived.BigQuiet
import Derived.Sort.QuietIn
namespace Go.Proofs.YtgcaenpflndibaaDoor
open Go.RowKit Go.Shelf
attribute [local go_sem] Oper.semAt_some

theorem boxed_more {W W' : World} {B : Nat} {t : TypeId} {v : Value} (h : Boxed W B t v) (k : More W W') : Boxed W' B t v := (k.block B h.lt).trans h

theorem trP_snoc' {G : List (Int × Int)} (k q : Nat) (pre : List (Int × Int)) (x1 x2 : Int) : G ++ trP k q (pre ++ [(x1, x2)]) = (G ++ trP k q pre) ++ [(((k + pre.length : Nat) : Int), wrap64 ((q : Int) * 64 + x2))] := by
  rw [trP_snoc, List.append_assoc]

/-- What From has laid, between two rounds. -/
structure FrSt (B b6 : Nat) (wA : World) (l q : Nat) (ds : List Deferred) (w : World) : Prop where
  b3 : Boxed w B 44 (.func (.yield l) #[] #[])
  b6 : Boxed w b6 3 (.int .i64 q)
  more : More wA w
  marks : Marks B w ds
theorem FrSt.under {B b6 : Nat} {wA : World} {l q : Nat} {ds : List Deferred} {w w' : World} {C : Nat} (h : FrSt B b6 wA l q ds w) (k : Below C w w') (hB : B < C) (h6 : b6 < C) (hA : wA.heap.size ≤ C) (hd : ∀ d ∈ ds, ∀ D, d.target = .collected D → D < C) : FrSt B b6 wA l q ds w' :=
  ⟨(k.block B hB).trans h.b3, (k.block b6 h6).trans h.b6, Below.trans h.more (k.mono hA), h.marks.under k hd⟩
theorem FrSt.only {B b6 : Nat} {wA : World} {l q : Nat} {ds : List Deferred} {w w' : World} (h : FrSt B b6 wA l q ds w) (k : Only wA.heap.size B w w') (h6 : B ≤ b6) : FrSt B b6 wA l q ds w' :=
  ⟨k.boxed h.b3 (Nat.le_refl _), k.boxed h.b6 h6, Below.trans h.more (k.below h.more.size), h.marks.only k (Nat.le_refl _)⟩
theorem FrSt.set {B b6 : Nat} {wA : World} {l q : Nat} {ds : List Deferred} {w : World} (h : FrSt B b6 wA l q ds w) (b : Nat) (v : Value) (h1 : B ≠ b) (h2 : b6 ≠ b) (h3 : wA.heap.size ≤ b) : FrSt B b6 wA l q ds (w.setCell ⟨b, 0, none⟩ v) :=
  ⟨h.b3.other h1 v, h.b6.other h2 v, h.more.setCell (p := ⟨b, 0, none⟩) h3 v, h.marks.setCell _ _⟩

set_option maxRecDepth 1000000 in
set_option maxHeartbeats 4000000 in
theorem from_in (n : Nat) (hn : 4 ≤ n) (Bk Bd base d V N : Nat) (k : Int) (wA wB : World) (hAB : More wA wB) (hA : SDirAt wA base d V N) (bkB : Boxed wB Bk 3 (.int .i64 k)) (bdB : Boxed wB Bd 49 (.pointer (some ⟨d, 0, none⟩))) (hT : TabIn wA) :
    SeqOwn Fence.wide n Tryd.prog 40 #[.pointer (some ⟨Bk, 0, none⟩), .pointer (some ⟨Bd, 0, none⟩)] encP wA.heap.size (fun _ => True) (fun xs => xs = goL V N k.toNat (rk V N - k.toNat)) (fun pre => ∃ c, c ≤ rk V N - k.toNat ∧ pre = goL V N k.toNat c) (rk V N - k.toNat) wB := by
  intro l J Jx W hWB _ hJ hJx _ hY h0
  have hW := More.trans hAB hWB
  have bk := boxed_more bkB hWB
  have bd := boxed_more bdB hWB
  clear bkB bdB hWB hAB
  have h1 : 1 ≤ n := by omega
  obtain ⟨w0, hw0⟩ : ∃ w0, W.alloc (.cells #[.func (.yield l) #[] #[]] 44) = w0 := ⟨_, rfl⟩
  have hm0 : More W w0 := by rw [← hw0]; exact more_alloc _ _
  have b3 : Boxed w0 W.heap.size 44 (.func (.yield l) #[] #[]) := by rw [← hw0]; exact Boxed.new _ _ _
  have hs0 : w0.heap.size = W.heap.size + 1 := by rw [← hw0]; simp
  have hA0 := More.trans hW hm0
  have ck := (hm0.cell (p := ⟨Bk, 0, none⟩) bk.lt).trans bk.cell
  have hmax : max k 0 = (k.toNat : Int) := by omega
  obtain ⟨K, hK⟩ : ∃ K, k.toNat = K := ⟨_, rfl⟩
  rw [hK] at hmax hY ⊢
  obtain ⟨w1, hw1⟩ : ∃ w1, w0.alloc (.cells #[.int .i64 K] 3) = w1 := ⟨_, rfl⟩
  have hm1 : More w0 w1 := by rw [← hw1]; exact more_alloc _ _
  have b4 : Boxed w1 (W.heap.size + 1) 3 (.int .i64 K) := by rw [← hw1, ← hs0]; exact Boxed.new _ _ _
  have hA1 := More.trans hA0 hm1
  have cd := ((More.trans hm0 hm1).cell (p := ⟨Bd, 0, none⟩) bd.lt).trans bd.cell
  have c4 := b4.cell
  have f4 := b4.frozen
  have hone : ∀ w2, More W w2 → Calls Tryd.prog 28 #[.pointer (some ⟨d, 0, none⟩), .int .i64 K] w2 fun e w' => e = .returned (.int .i64 (sel V K N)) ∧ More w2 w' := fun w2 hm => sdir_one d V N K base w2 (hA.more (More.trans hW hm))
  have HH := Hid.mk (And.intro hA (And.intro bk (And.intro bd (And.intro hT (And.intro hW (And.intro (boxed_more b3 hm1) (And.intro b4 (And.intro (More.trans hm0 hm1) hA1))))))))
  clear hA bk bd hT hK hm0 hm1 hA0 hA1 b3 b4
  by_cases hKr : rk V N ≤ K
  · rw [sel_outN V K N (by omega)] at hone
    refine callsIn_of_wp_marks Tryd.func40 rfl trivial ?_ rfl
    simp only [Tryd.ntmps40, List.size_toArray, List.length_cons, List.length_nil, Nat.reduceAdd, Nat.reduceSub, Array.replicate_succ, Array.replicate_zero, List.push_toArray, List.append_toArray, List.nil_append, List.cons_append]
    gi_wp2_with (refine ⟨trivial, ?_⟩; gi_at_call 28; refine (callsIn_wide.2 (hone _ HH.out.2.2.2.2.2.2.2.1)).mono ?_; rintro e w2 ⟨rfl, hm⟩; have H2 := Hid.mk hm; clear hm)
    refine ⟨_, results_none rfl _ _ _, ⟨_, rfl⟩, .inl ⟨_, rfl, ?_⟩⟩
    rw [show rk V N - K = 0 by omega]
    exact hJ _ _ _ h0 (More.trans HH.out.2.2.2.2.2.2.2.1 H2.out)
  obtain ⟨A, hAN, hAb, hAk⟩ := sel_in V N K (by omega)
  rw [sel_of V K N A hAN hAb (by omega)] at hone
  obtain ⟨q, hq⟩ : ∃ q, A / 64 = q := ⟨_, rfl⟩
  obtain ⟨m, hm⟩ : ∃ m, A % 64 = m := ⟨_, rfl⟩
  have e1 : (A : Int) / 64 = q := by omega
  have e1' : (A : Int).tdiv 64 = q := by rw [Int.tdiv_eq_ediv_of_nonneg (by omega)]; exact e1
  have e2 : (A : Int) % 64 = m := by omega
  have hNb := HH.out.1.len
  have hqb : q ≤ 17179869184 := by omega
  have hm63 : m ≤ 63 := by omega
  have hma := fun w => mask m w
  rw [show min 64 (m : Int).toNat = m by omega] at hma
  have hp := pow_le64 (show m ≤ 64 by omega)
  have H1 := Hid.mk (And.intro hAk (And.intro (show A = 64 * q + m by omega) hAN))
  clear hAb hAk hq hm hAN
  refine callsIn_of_wp_marks Tryd.func40 rfl trivial ?_ rfl
  simp only [Tryd.ntmps40, List.size_toArray, List.length_cons, List.length_nil, Nat.reduceAdd, Nat.reduceSub, Array.replicate_succ, Array.replicate_zero, List.push_toArray, List.append_toArray, List.nil_append, List.cons_append]
  gi_wp2_with (first
    | (refine ⟨trivial, ?_⟩; gi_at_call 28; refine (callsIn_wide.2 (hone _ HH.out.2.2.2.2.2.2.2.1)).mono ?_; rintro e w2 ⟨rfl, hm⟩; have H2 := Hid.mk hm; clear hm)
    | (refine ⟨trivial, ?_⟩; gi_at_call 41; refine (callsIn_wide.2 (hma _)).mono ?_; rintro e w' ⟨rfl, hw'⟩; subst w'))
  obtain ⟨w3, hw3⟩ : ∃ w3, w2.alloc (.cells #[.int .i64 q] 3) = w3 := ⟨_, rfl⟩
  have hm3 : More w2 w3 := by rw [← hw3]; exact more_alloc _ _
  have b6 : Boxed w3 w2.heap.size 3 (.int .i64 q) := by rw [← hw3]; exact Boxed.new _ _ _
  have h13 : More w1 w3 := More.trans H2.out hm3
  have hA3 : More wA w3 := More.trans HH.out.2.2.2.2.2.2.2.2 h13
  have hW3 : More W w3 := More.trans HH.out.2.2.2.2.2.2.2.1 h13
  have b3 := boxed_more HH.out.2.2.2.2.2.1 h13
  have b4 := boxed_more HH.out.2.2.2.2.2.2.1 h13
  have bd := HH.out.2.2.1
  have cd3 := (hW3.cell (p := ⟨Bd, 0, none⟩) bd.lt).trans bd.cell
  have c6 := b6.cell
  obtain ⟨vv, _, hbd, hv, _⟩ := HH.out.1.mem
  obtain ⟨cw, _⟩ := cells3 hbd
  have hqK : q < nw N := by have := H1.out; unfold nw; omega
  obtain ⟨g, cv, rfl, hg, hcv⟩ := own_at hv (by omega)
  have c0 := (hA3.cell (p := ⟨d, 0, none⟩) (World.block_lt_of_cell? wA _ cw)).trans cw
  have hKb : nw N ≤ 17179869185 := by unfold nw; omega
  have hcq : ¬ cv = q := by omega
  have hNw : Hid (N ≤ 64 * nw N) := Hid.mk (by unfold nw; omega)
  have hgw := hg
  obtain ⟨M, hM⟩ : ∃ M, nw N = M := ⟨_, rfl⟩
  rw [hM] at c0 hqK hKb hgw hNw
  have hqM : q ≤ M := by omega
  rw [hw3]
  have H3 := Hid.mk (And.intro hgw (And.intro hA3 (And.intro hW3 (And.intro b3 (And.intro b4 (And.intro b6 hM))))))
  clear hg hgw hv hbd cw hA3 hW3 h13 hm3 b3 b4 b6 bd hM hw3 ck cd c4 f4 hcv
  gi_quiet (fail)
  gi_wp2
  have H4 := Hid.mk (And.intro (H3.out.2.1) (And.intro (More.trans H3.out.2.2.1 (More.drewN w3 nq)) (And.intro (boxed_more H3.out.2.2.2.1 (More.drewN w3 nq)) (And.intro (boxed_more H3.out.2.2.2.2.1 (More.drewN w3 nq)) (And.intro (boxed_more H3.out.2.2.2.2.2.1 (More.drewN w3 nq)) (More.trans H3.out.2.1 (More.drewN w3 nq)))))))
  generalize w3.drewN nq = w4 at *
  have hB2 : W.heap.size + 2 ≤ w2.heap.size := by have h1 := H2.out.size; have h2 := HH.out.2.2.2.2.2.2.1.lt; omega
  have hAW := HH.out.2.2.2.2.1.size
  refine wpIn_loop (fun a' w' => ∃ u7 u8 u9 u31 u32 u33 u34 u35 u36 u37 u38 u39 u54 ds, (∃ j mm c : Nat, u31 = .int .i64 j ∧ u7 = .int .u64 (2 ^ mm - 1 : Nat) ∧ j ≤ M - q ∧ (j = 0 ∧ mm = m ∨ 0 < j ∧ mm = 0) ∧ Hid (K + c = rk V (64 * (q + j) + mm) ∧ J (goL V N K c) w' ∧ Boxed w' (W.heap.size + 1) 3 (.int .i64 (K + c : Nat)) ∧ FrSt W.heap.size w2.heap.size wA l q ds w' ∧ w2.heap.size < w'.heap.size)) ∧ a' = Act.mk #[.func (.yield l) #[] #[], .pointer (some ⟨Bk, 0, none⟩), .pointer (some ⟨Bd, 0, none⟩), .pointer (some ⟨W.heap.size, 0, none⟩), .pointer (some ⟨W.heap.size + 1, 0, none⟩), .int .i64 A, .pointer (some ⟨w2.heap.size, 0, none⟩), u7, u8, u9, undef, undef, .int .i64 k, .int .i64 K, .pointer (some ⟨d, 0, none⟩), .int .i64 K, .int .i64 A, .int .i64 A, .bool (decide ((A : Int) < 0)), .int .i64 A, .int .i64 q, .int .i64 A, .int .i64 m, .int .u64 (2 ^ m - 1 : Nat), .pointer (some ⟨d, 0, none⟩), .pointer (some ⟨d, 0, none⟩), .pointer (some ⟨d, 0, none⟩), .slice (some ⟨g, 0, none⟩) M cv, .int .i64 q, .slice (some ⟨g, q, none⟩) (M - q) (cv - q), .int .i64 (M - q : Nat), u31, u32, u33, u34, u35, u36, u37, u38, u39, undef, undef, undef, undef, undef, undef, undef, undef, undef, undef, undef, undef, undef, undef, u54] ds)
    (fun a' _ => M - q - (intOf (a'.tmps.getD 31 undef)).toNat) ?start ?round
  case start =>
    refine ⟨_, _, _, _, _, _, _, _, _, _, _, _, _, _, ⟨0, m, 0, rfl, rfl, Nat.zero_le _, .inl ⟨rfl, rfl⟩, Hid.mk ⟨?_, ?_, ?_, ?_, ?_⟩⟩, rfl⟩
    · have := H1.out; rw [Nat.add_zero, Nat.add_zero, ← this.2.1, this.1]
    · exact hJ _ _ _ h0 H4.out.2.1
    · exact H4.out.2.2.2.1
    · exact ⟨H4.out.2.2.1, H4.out.2.2.2.2.1, H4.out.2.2.2.2.2, .nil⟩
    · exact H4.out.2.2.2.2.1.lt
  case round =>
    rintro _ wr ⟨u7, u8, u9, u31, u32, u33, u34, u35, u36, u37, u38, u39, u54, ds, ⟨j, mm, c, rfl, rfl, hj, hjm, HR⟩, rfl⟩
    have hmm : mm ≤ 63 := by omega
    by_cases hjM : j < M - q
    · have hx := (HR.out.2.2.2.1.more.cell (p := ⟨g, q + j, none⟩) (World.block_lt_of_cell? wA _ (H3.out.1 (q + j) (by omega)))).trans (H3.out.1 (q + j) (by omega))
      have hX := wd_lt V (q + j)
      have hand := andNot_cut (wd V (q + j)) mm hX (by omega)
      have hYl := Nat.lt_of_le_of_lt (cutLow_le (wd V (q + j)) mm) hX
      have hpc := fun w => pairs_call (n - 1) (cutLow (wd V (q + j)) mm) w
      obtain ⟨X, hXe⟩ : ∃ X, wd V (q + j) = X := ⟨_, rfl⟩
      rw [hXe] at hx hX hand hYl hpc
      obtain ⟨Y, hYe⟩ : ∃ Y, cutLow X mm = Y := ⟨_, rfl⟩
      rw [hYe] at hand hYl hpc
      have HX := Hid.mk (And.intro hXe hYe)
      clear hXe hYe hone hma
      gi_wp2_with (refine ⟨trivial, ?_⟩; gi_at_call 42; refine (hpc _).mono ?_; rintro e w' ⟨rfl, hw'⟩; subst w')
      obtain ⟨w6, hw6⟩ : ∃ w6, (wr.alloc (.cells #[.int .i64 j] 3)).alloc (.cells #[.int .u64 Y] 57) = w6 := ⟨_, rfl⟩
      have hm6 : More wr w6 := by rw [← hw6]; exact (more_alloc wr _).alloc (more_alloc wr _).size _
      have hs6 : w6.heap.size = wr.heap.size + 2 := by rw [← hw6]; simp
      have b8 : Boxed w6 wr.heap.size 3 (.int .i64 j) := by rw [← hw6]; exact (Boxed.new wr _ _).alloc _
      have b9 : Boxed w6 (wr.heap.size + 1) 57 (.int .u64 Y) := by
        have := Boxed.new (wr.alloc (.cells #[.int .i64 j] 3)) 57 (.int .u64 Y)
        rw [World.size_alloc] at this
        rw [← hw6]; exact this
      obtain ⟨hKc, hJr, b4r, str, hsr⟩ := HR.out
      have J6 : J (goL V N K c) w6 := hJ _ _ _ hJr (hm6.mono (by omega))
      have b46 := boxed_more b4r hm6
      have st6 := str.under hm6 (by omega) (by omega) str.more.size (str.marks.lt' (Nat.le_refl _))
      have hds := st6.marks.lt' (Nat.le_refl _)
      have hT6 : TabIn w6 := More.tab HH.out.2.2.2.1 st6.more
      have hA1 : 1 ≤ wA.heap.size := World.block_lt_of_cell? wA _ (HH.out.2.2.2.1 0 (by decide))
      have hcap : K + c + rk Y 64 = rk V (64 * (q + j + 1)) := by
        have h := part_rk V (q + j) mm (by omega)
        rw [HX.out.1, HX.out.2] at h
        omega
      have hcap2 : rk V (64 * (q + j + 1)) ≤ rk V N := by
        have h1 := rk_words (V := V) (n := N) HH.out.1.fit
        rw [H3.out.2.2.2.2.2.2] at h1
        rw [← h1]; exact rk_mono V (by omega)
      have hall : ∀ cc, cc ≤ rk Y 64 → goL V N K c ++ trP (K + c) (q + j) (allP Y cc) = goL V N K (c + cc) := fun cc hcc => by
        have h := trP_all V N (q + j) mm K c cc HH.out.1.fit (by omega) (by omega) hKc (by rw [HX.out.1, HX.out.2]; exact hcc)
        rw [HX.out.1, HX.out.2] at h
        exact h
      have hr64 := rk_le Y 64
      have hkc : K + c ≤ N := by rw [hKc]; exact Nat.le_trans (rk_mono V (show 64 * (q + j) + mm ≤ 64 * (q + j + 1) by omega)) (Nat.le_trans hcap2 (rk_le _ _))
      rw [hw6]
      have HKc := Hid.mk hKc
      have Hcap := Hid.mk hcap
      have hcap3 : K + c + rk Y 64 ≤ rk V N := by omega
      clear hw6 hJr b4r str hx hand hpc hKc hcap
      refine range_own rfl h1 (gf := 57) (lb := #[.pointer (some ⟨wr.heap.size + 1, 0, none⟩)]) rfl trivial (enters_of Tryd.func57 (by kernel_rfl) rfl)
        (pairs_own (n - 1) (by omega) (wr.heap.size + 1) wA.heap.size Y hYl (by omega) w6 b9.lt b9.cell hT6) (by omega) (Below.refl _ _) (fun _ => rfl)
        (fun pre V' => J (goL V N K c ++ trP (K + c) (q + j) pre) V' ∧ Boxed V' (W.heap.size + 1) 3 (.int .i64 (K + c + pre.length : Nat)) ∧ Boxed V' wr.heap.size 3 (.int .i64 j) ∧ FrSt W.heap.size w2.heap.size wA l q ds V' ∧ w6.heap.size ≤ V'.heap.size)
        (fun cc pre V' => cc = .ret ∧ Jx (goL V N K c ++ trP (K + c) (q + j) pre) V' ∧ Marks W.heap.size V' ds ∧ w6.heap.size ≤ V'.heap.size)
        (fun s A A' h k => ⟨hJ _ _ _ h.1 (k.mono (by omega)), (k.block _ (by omega)).trans h.2.1, (k.block _ (by omega)).trans h.2.2.1, h.2.2.2.1.under k (by omega) (by omega) (by omega) hds, Nat.le_trans h.2.2.2.2 k.size⟩)
        (fun cc s A A' h k => ⟨h.1, hJx _ _ _ h.2.1 (k.mono (by omega)), h.2.2.1.under k hds, Nat.le_trans h.2.2.2 k.size⟩)
        (fun _ _ _ => trivial) ⟨by simpa [trP] using J6, b46, b8, st6, Nat.le_refl _⟩
        (fun x => { tmps := #[.func (.yield l) #[] #[], .pointer (some ⟨Bk, 0, none⟩), .pointer (some ⟨Bd, 0, none⟩), .pointer (some ⟨W.heap.size, 0, none⟩), .pointer (some ⟨W.heap.size + 1, 0, none⟩), .int .i64 A, .pointer (some ⟨w2.heap.size, 0, none⟩), .int .u64 (2 ^ mm - 1 : Nat), .pointer (some ⟨wr.heap.size, 0, none⟩), .int .u64 X, undef, .int .i64 x.2, .int .i64 k, .int .i64 K, .pointer (some ⟨d, 0, none⟩), .int .i64 K, .int .i64 A, .int .i64 A, .bool (decide ((A : Int) < 0)), .int .i64 A, .int .i64 q, .int .i64 A, .int .i64 m, .int .u64 (2 ^ m - 1 : Nat), .pointer (some ⟨d, 0, none⟩), .pointer (some ⟨d, 0, none⟩), .pointer (some ⟨d, 0, none⟩), .slice (some ⟨g, 0, none⟩) M cv, .int .i64 q, .slice (some ⟨g, q, none⟩) (M - q) (cv - q), .int .i64 (M - q : Nat), .int .i64 j, .bool true, .int .i64 j, .pointer (some ⟨g, q + j, none⟩), .int .u64 X, .int .u64 X, .int .u64 (2 ^ mm - 1 : Nat), .int .u64 Y, .func (.func 57) #[] #[.pointer (some ⟨wr.heap.size + 1, 0, none⟩)], .int .i64 x.1, .int .i64 x.2, undef, undef, undef, undef, undef, undef, undef, undef, undef, undef, undef, undef, u54], defers := [] }) ?assign ?body ?done ?stop
      case assign =>
        intro l2 x W' K' hK'
        gi_wp2
        exact hK'
      case body =>
        rintro l2 pre ⟨x1, x2⟩ V' hSp ⟨hJs, b4, b8, st, hsz⟩ hszV hlen
        have hd : 1 ≤ n - 1 - 1 := by omega
        have c3 := st.b3.cell
        have c4 := b4.cell
        have c6 := st.b6.cell
        have c8 := b8.cell
        obtain ⟨fn, tmps, assign, body, hy, hRd⟩ := hY (goL V N K c ++ trP (K + c) (q + j) pre) (((K + c + pre.length : Nat) : Int), wrap64 (((q + j : Nat) : Int) * 64 + x2)) V' (by obtain ⟨kk, hkk, he⟩ := hSp; exact ⟨c + kk, by omega, by rw [← trP_snoc' (K + c) (q + j) pre x1 x2, he]; exact hall kk hkk⟩) hJs (by omega) (by rw [List.length_append, goL_len, trP_len]; omega)
        dsimp only [encP] at hy
        rw [Int.natCast_add (K + c) pre.length, Int.natCast_add K c] at hy
        rw [← trP_snoc' (K + c) (q + j) pre x1 x2] at hRd
        rw [Int.natCast_add q j] at hy
        have hRd' := RoundIn.within (m' := n - 1 - 1 - 1) (l2 := l2) hRd
        clear hRd hY
        gi_wp2
        refine hRd'.mono ?_
        clear hRd' hy
        rintro e W3 (⟨rfl, hJ3, ho3⟩ | ⟨rfl, hJx3, ho3⟩)
        · have b43 := ho3.boxed b4 (by omega)
          have c43 := b43.cell
          have f43 := b43.frozen
          have st3 := (st.only ho3 (by omega)).set (W.heap.size + 1) (.int .i64 (K + c + (pre ++ [(x1, x2)]).length : Nat)) (by omega) (by omega) (by omega)
          have b83 := (ho3.boxed b8 (by omega)).other (show wr.heap.size ≠ W.heap.size + 1 by omega) (.int .i64 (K + c + (pre ++ [(x1, x2)]).length : Nat))
          have b45 := b43.set (.int .i64 (K + c + (pre ++ [(x1, x2)]).length : Nat))
          have hz : Hid ((K : Int) + c + pre.length + 1 = ((K + c + (pre ++ [(x1, x2)]).length : Nat) : Int)) := Hid.mk (by simp; omega)
          have hon := (ho3.mono (Nat.le_refl _) (show W.heap.size ≤ w6.heap.size by omega)).setCell (p := ⟨W.heap.size + 1, 0, none⟩) (show wA.heap.size ≤ W.heap.size + 1 by omega) (show W.heap.size + 1 < w6.heap.size by omega) (.int .i64 (K + c + (pre ++ [(x1, x2)]).length : Nat))
          have hJ5 := hJ _ _ _ hJ3 ((Below.refl W.heap.size W3).setCell (p := ⟨W.heap.size + 1, 0, none⟩) (by simp) (.int .i64 (K + c + (pre ++ [(x1, x2)]).length : Nat)))
          have hsz3 : w6.heap.size ≤ (W3.setCell ⟨W.heap.size + 1, 0, none⟩ (.int .i64 (K + c + (pre ++ [(x1, x2)]).length : Nat))).heap.size := Nat.le_trans (Nat.le_trans hsz ho3.size) (KeepsOthers.setCell W3 _ _).size
          have HZ := Hid.mk (And.intro st3 (And.intro b83 (And.intro b45 (And.intro hon (And.intro hJ5 hsz3)))))
          clear st3 b83 b45 hon hJ5 hsz3 hJ3 ho3 b43
          gi_wp2
          rw [hz.out]
          exact ⟨HZ.out.2.2.2.1, HZ.out.2.2.2.2.1, HZ.out.2.2.1, HZ.out.2.1, HZ.out.1, HZ.out.2.2.2.2.2⟩
        · have st3 := st.marks.only ho3 (Nat.le_refl _)
          have hon := ho3.mono (Nat.le_refl _) (show W.heap.size ≤ w6.heap.size by omega)
          gi_wp2
          exact ⟨hon, rfl, hJx3, st3, Nat.le_trans hsz ho3.size⟩
      case done =>
        rintro D ys V' hD rfl ⟨hJs, b4, b8, st, hsz⟩ hKD
        rw [hall _ (Nat.le_refl _)] at hJs
        rw [allP_len] at b4
        gi_wp2
        refine ⟨⟨_, _, _, _, _, _, _, _, _, _, _, _, _, _, ⟨j + 1, 0, c + rk Y 64, by go_num, by simp, by omega, .inr ⟨by omega, rfl⟩, Hid.mk ⟨?_, hJs, by rw [← Nat.add_assoc]; exact b4, ?_, by omega⟩⟩, rfl⟩, by simp [intOf]; omega⟩
        · rw [Nat.add_zero, ← Nat.add_assoc, Hcap.out, Nat.add_assoc]
        · exact ⟨st.b3, st.b6, st.more, .cons (by omega) hKD (fun d hd he => by have := hds d hd D he; omega) st.marks⟩
      case stop =>
        rintro D cc pre V' hD ⟨kk, hkk, rfl⟩ ⟨rfl, hjx, hmk, hsz⟩ hKD
        rw [hall _ hkk] at hjx
        gi_wp2
        refine leaves_marks (.cons (by omega) hKD (fun d hd he => by have := hds d hd D he; omega) hmk) fun w' hw' => ⟨_, results_none rfl _ _ _, ⟨_, rfl⟩, .inr ⟨_, ⟨c + kk, by omega, rfl⟩, hJx _ _ _ hjx hw'⟩⟩
    · obtain rfl : j = M - q := by omega
      obtain ⟨hKc, hJr, b4r, str, hsr⟩ := HR.out
      have hmm0 : mm = 0 := by omega
      subst hmm0
      have hc : c = rk V N - K := by
        have h1 := rk_words (V := V) (n := N) HH.out.1.fit
        rw [H3.out.2.2.2.2.2.2] at h1
        rw [Nat.add_zero, show q + (M - q) = M by omega, h1] at hKc
        omega
      rw [hc] at hJr
      gi_wp2
      refine leaves_marks str.marks fun w' hw' => ⟨_, results_none rfl _ _ _, ⟨_, rfl⟩, .inl (hJ _ _ _ hJr hw')⟩

theorem from1_in (n : Nat) (hn : 4 ≤ n) (Bk Bd base d V N : Nat) (k : Int) (wA : World) (hA : SDirAt wA base d V N) (bk : Boxed wA Bk 3 (.int .i64 k)) (bd : Boxed wA Bd 49 (.pointer (some ⟨d, 0, none⟩))) (hT : TabIn wA) :
    SeqOwn Fence.wide n Tryd.prog 40 #[.pointer (some ⟨Bk, 0, none⟩), .pointer (some ⟨Bd, 0, none⟩)] encP wA.heap.size (fun _ => True) (fun xs => xs = goL V N k.toNat (rk V N - k.toNat)) (fun pre => ∃ c, c ≤ rk V N - k.toNat ∧ pre = goL V N k.toNat c) (rk V N - k.toNat) wA :=
  from_in n hn Bk Bd base d V N k wA wA (Below.refl _ _) hA bk bd hT

end Go.Proofs.YtgcaenpflndibaaDoor
