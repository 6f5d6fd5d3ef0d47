/-
  window's Ahead and Count.
-/
import Derived.Test.YtiiflegfbieblaaWinE
namespace Go.Proofs.Ytiiflegfbieblaa
open Go.RowKit Go.Shelf
attribute [local go_sem] Oper.semAt_some

set_option maxRecDepth 1000000 in
set_option maxHeartbeats 1600000 in
theorem w_ahead (v : Value) (p : List Int) (i n : Int) (w : World) (h : IL w v p) (hc : Cap v) (hl : p.length ≤ 1000000) (hn : n ≤ 9223372036854775807) :
    Calls Try.prog 22 #[v, .int .i64 i, .int .i64 n] w fun e w' => ∃ r, e = .returned r ∧ NL w' w.heap.size r (ahd p i n) ∧ More w w' := by
  by_cases h1 : n < 1
  · have HN := Hid.mk (ahd_none (p := p) (i := i) (.inl h1))
    obtain ⟨ao, cap, rfl⟩ := h.shape
    clear h hc
    go_enter Try.func22, Try.ntmps22
    go_wp2
    go_ret
    exact ⟨_, rfl, by rw [HN.out]; exact NL.nil _ _, More.refl _⟩
  by_cases h2 : i < 0
  · have HN := Hid.mk (ahd_none (p := p) (n := n) (.inr (.inl h2)))
    obtain ⟨ao, cap, rfl⟩ := h.shape
    have h1' : decide (n < 1) = false := decide_eq_false h1
    clear h hc
    go_enter Try.func22, Try.ntmps22
    go_wp2
    go_ret
    exact ⟨_, rfl, by rw [HN.out]; exact NL.nil _ _, More.refl _⟩
  have h1' : decide (n < 1) = false := decide_eq_false h1
  have h2' : decide (i < 0) = false := decide_eq_false h2
  by_cases h3 : (p.length : Int) < i
  · have HN := Hid.mk (ahd_none (n := n) (.inr (.inr h3)))
    obtain ⟨ao, cap, rfl⟩ := h.shape
    generalize p.length = k at *
    clear h hc
    go_enter Try.func22, Try.ntmps22
    go_wp2
    go_ret
    exact ⟨_, rfl, by rw [HN.out]; exact NL.nil _ _, More.refl _⟩
  obtain ⟨I, rfl⟩ : ∃ I : Nat, i = I := ⟨i.toNat, by omega⟩
  have hs := ahd_some (p := p) (i := (I : Int)) (n := n) (by omega) (by omega) (by omega)
  rw [Int.toNat_natCast] at hs
  obtain ⟨M, hM⟩ : ∃ M, ((I : Int) - n).toNat = M := ⟨_, rfl⟩
  rw [hM] at hs
  have hmax : max ((I : Int) - n) 0 = (M : Int) := by omega
  have hMI : M ≤ I := by omega
  have hMI' : I = 0 ∨ M < I := by omega
  have hIp : I ≤ p.length := by omega
  have hlen : (ahd p (I : Int) n).length = I - M := by rw [hs, List.length_drop, List.length_take]; omega
  obtain ⟨ao, cap, rfl⟩ := h.shape
  have hcap := hc.le
  have h3' : ¬ (p.length : Int) < (I : Int) := by omega
  have hwr : wrap64 ((I : Int) - n) = (I : Int) - n := by unfold wrap64; omega
  rcases hMI' with h0 | hlt
  · subst h0
    obtain rfl : M = 0 := by omega
    have he : ahd p ((0 : Nat) : Int) n = [] := List.eq_nil_of_length_eq_zero (by rw [hlen])
    have HE := Hid.mk he
    generalize p.length = k at *
    clear h hc hs hlen he hM
    go_enter Try.func22, Try.ntmps22
    go_wp2_with (go_at_call 40; refine (cl_ints _ [] _ (IL.nil _ _ _) (by decide)).mono ?_; rintro e w1 ⟨v1, rfl, hN, hm⟩; have H1 := Hid.mk (And.intro hN hm); clear hN hm)
    all_goals
      go_ret
      exact ⟨_, rfl, by rw [show ahd p 0 n = [] from HE.out]; exact H1.out.1, H1.out.2⟩
  · obtain ⟨b, o, c, e, hb, hcell⟩ := h.form (by omega)
    obtain ⟨rfl, _, rfl⟩ := Value.slice.inj e
    have hne : ¬ cap = M := by omega
    have hil : ∀ c, IL w (.slice (some ⟨b, o + M, none⟩) (I - M) c) (ahd p (I : Int) n) := fun c => by
      refine .inr ⟨b, o + M, c, by rw [hlen], hb, fun j hj => ?_⟩
      rw [hlen] at hj
      show w.cell? _ = some (.int .i64 ((ahd p (I : Int) n).getD j 0))
      have e : (ahd p (I : Int) n).getD j 0 = p.getD (M + j) 0 := by rw [hs]; exact ahT_get (by omega)
      rw [e, Nat.add_assoc]
      exact hcell (M + j) (by omega)
    have HL := Hid.mk (And.intro hil (show (ahd p (I : Int) n).length ≤ 1000000 by omega))
    have hMc : (M : Int) ≤ (I : Int) := by omega
    have hIc : (I : Int) ≤ (cap : Int) := by omega
    generalize ahd p (I : Int) n = R at *
    generalize p.length = k at *
    clear h hc hs hlen hcell hil hM e
    go_enter Try.func22, Try.ntmps22
    go_wp2_with (go_at_call 40; refine (cl_ints _ R _ (HL.out.1 _) HL.out.2).mono ?_; rintro e w1 ⟨v1, rfl, hN, hm⟩; have H1 := Hid.mk (And.intro hN hm); clear hN hm)
    go_ret
    exact ⟨_, rfl, H1.out.1, H1.out.2⟩

/-- While Count goes over the lists. -/
structure CtSt (w : World) (B : Nat) (u : Value) (c : Nat) (ds : List Deferred) (V : World) : Prop where
  bg : Boxed V w.heap.size 30 u
  bc : Boxed V B 3 (.int .i64 c)
  ne : w.heap.size < B
  more : More w V
  marks : Marks w.heap.size V ds
theorem CtSt.dl {w : World} {B : Nat} {u : Value} {c : Nat} {ds : List Deferred} {V : World} (h : CtSt w B u c ds V) : ∀ d ∈ ds, ∀ D, d.target = .collected D → D < V.heap.size := h.marks.lt' (Nat.le_refl _)
theorem CtSt.under {w : World} {B : Nat} {u : Value} {c : Nat} {ds : List Deferred} {V V' : World} {E : Nat → Prop} (h : CtSt w B u c ds V) (k : Stay E V V') (hE : ∀ j, j < w.heap.size + 1 → E j) (hB : E B) (hd : ∀ d ∈ ds, ∀ D, d.target = .collected D → E D) : CtSt w B u c ds V' :=
  ⟨k.boxed h.bg (hE _ (by omega)), k.boxed h.bc hB, h.ne, Below.trans h.more (k.below fun j hj => hE j (by omega)), h.marks.stay k hd⟩
theorem CtSt.later {w : World} {B : Nat} {u : Value} {c : Nat} {ds : List Deferred} {V V' : World} (h : CtSt w B u c ds V) (k : More V V') : CtSt w B u c ds V' :=
  ⟨boxed_more h.bg k, boxed_more h.bc k, h.ne, More.trans h.more k, h.marks.kept fun D _ _ he => (k.block D (Array.getElem?_eq_some_iff.1 he).1).trans he⟩
theorem CtSt.set {w : World} {B : Nat} {u : Value} {c : Nat} {ds : List Deferred} {V : World} (h : CtSt w B u c ds V) (c' : Nat) (x : Int) (e : x = c') : CtSt w B u c' ds (V.setCell ⟨B, 0, none⟩ (.int .i64 x)) := by
  subst e
  exact ⟨h.bg.other (Nat.ne_of_lt h.ne) _, h.bc.set _, h.ne, h.more.setCell (p := ⟨B, 0, none⟩) (Nat.le_of_lt h.ne) _, h.marks.setCell _ _⟩

set_option maxRecDepth 1000000 in
set_option maxHeartbeats 4000000 in
theorem w_count_in (n : Nat) (hn : 16 ≤ n) (v u : Value) (L : List (List Int)) (g : List Int) (w : World) (h : LL w v L) (hu : IL w u g) (hl : L.length ≤ 12) (hx : ∀ x ∈ L, x.length ≤ 30) (hg : g.length ≤ 30) :
    CallsIn Fence.wide n Try.prog 20 #[v, u] w fun e w' => e = .returned (.int .i64 ((eac L g.length).count g : Nat)) ∧ More w w' := by
  have h1 : 1 ≤ n := by omega
  have HA := Hid.mk (And.intro h hu)
  obtain ⟨bo, cb, rfl⟩ := h.shape
  obtain ⟨uo, uc, rfl⟩ := hu.shape
  obtain ⟨k, hk⟩ : ∃ k, L.length = k := ⟨_, rfl⟩
  have HX := Hid.mk (And.intro hk (And.intro hx (And.intro hg (fun i => eac_take_len L (g.length : Int) hx hl i))))
  obtain ⟨N, hN⟩ : ∃ N, g.length = N := ⟨_, rfl⟩
  rw [hN] at HA HX hg ⊢
  have HG := Hid.mk hN
  rw [hk] at HA hl ⊢
  obtain ⟨w1, hw1⟩ : ∃ w1, w.alloc (.cells #[.slice uo N uc] 30) = w1 := ⟨_, rfl⟩
  obtain ⟨b1, hm1⟩ := one_box hw1
  obtain ⟨w2, hw2⟩ : ∃ w2, w1.alloc (.cells #[.int .i64 0] 3) = w2 := ⟨_, rfl⟩
  obtain ⟨b2, hm2⟩ := one_box hw2
  have H0 := Hid.mk ((show CtSt w w1.heap.size (.slice uo N uc) ((eac (L.take 0) N).count g) [] w2 from ⟨boxed_more b1 hm2, by simpa [eac] using b2, b1.lt, More.trans hm1 hm2, .nil⟩).set ((eac (L.take 0) N).count g) 0 (by simp [eac]))
  have hs2 : w1.heap.size < w2.heap.size := b2.lt
  have hs1 : w.heap.size < w1.heap.size := b1.lt
  have c2 := b2.cell
  have f2 := b2.frozen
  have cg := (boxed_more b1 hm2).cell
  clear h hu hx b1 b2 hm1 hm2 hk hN
  refine callsIn_of_wp_marks Try.func20 rfl trivial ?_ rfl
  simp only [Try.ntmps20, List.size_toArray, List.length_cons, List.length_nil, Nat.reduceAdd, Nat.reduceSub, Array.replicate_succ, Array.replicate_zero, List.push_toArray, List.append_toArray, List.nil_append, List.cons_append]
  gi_wp2
  clear hw1 hw2 c2 f2 cg
  refine wpIn_loop (fun a' w' => ∃ u7 u9 u12 u13 u14 u15 u16 u17 u18 u19 u20 u21 u22 u23 u24 u25 u26 u27 u28 ds, (∃ r : Nat, r ≤ k ∧ u12 = .int .i64 r ∧ w1.heap.size < w'.heap.size ∧ Hid (CtSt w w1.heap.size (.slice uo N uc) ((eac (L.take r) N).count g) ds w')) ∧ a' = Act.mk #[.slice bo k cb, .slice uo N uc, undef, .pointer (some ⟨w.heap.size, 0, none⟩), .int .i64 0, .pointer (some ⟨w1.heap.size, 0, none⟩), undef, u7, undef, u9, .slice bo k cb, .int .i64 k, u12, u13, u14, u15, u16, u17, u18, u19, u20, u21, u22, u23, u24, u25, u26, u27, u28] ds)
    (fun a' _ => k - (intOf (a'.tmps.getD 12 undef)).toNat) ?start ?round
  case start => exact ⟨_, _, _, _, _, _, _, _, _, _, _, _, _, _, _, _, _, _, _, _, ⟨0, Nat.zero_le _, rfl, H0.out.bc.lt, H0⟩, rfl⟩
  case round =>
    rintro _ wr ⟨u7, u9, u12, u13, u14, u15, u16, u17, u18, u19, u20, u21, u22, u23, u24, u25, u26, u27, u28, ds, ⟨r, hr, rfl, hzr, HR⟩, rfl⟩
    clear H0
    by_cases hrk : r < k
    · have st := HR.out
      obtain ⟨gb, ob, pu, rfl, hgb, cp, hP, hPc⟩ := HA.out.1.at (j := r) (by rw [HX.out.1]; exact hrk)
      have cp2 := (st.more.cell hgb).trans cp
      have hPl : (L.getD r []).length ≤ 30 := HX.out.2.1 _ (getD_in (by rw [HX.out.1]; exact hrk))
      have HC := Hid.mk (eac_count (n := (N : Int)) g (show r < L.length by rw [HX.out.1]; exact hrk))
      have hcl : (eac (L.take r) (N : Int)).count g ≤ 360 := Nat.le_trans List.count_le_length (HX.out.2.2.2 r)
      obtain ⟨P, hPe⟩ : ∃ P, L.getD r [] = P := ⟨_, rfl⟩
      obtain ⟨cnt, hcnt⟩ : ∃ cnt, (eac (L.take r) (N : Int)).count g = cnt := ⟨_, rfl⟩
      rw [hPe] at hP hPl HC
      rw [hcnt] at st HC hcl
      obtain ⟨po, pc, rfl⟩ := hP.shape
      have cg := st.bg.cell
      have hpc := hPc.le
      have hao : 0 < P.length → ∃ b o, po = some ⟨b, o, none⟩ := fun h => by obtain ⟨b, o, c, e, _⟩ := hP.form h; exact ⟨b, o, (Value.slice.inj e).1⟩
      have HP := Hid.mk (And.intro hP st)
      obtain ⟨pl, hpl⟩ : ∃ pl, P.length = pl := ⟨_, rfl⟩
      have HPL := Hid.mk hpl
      have HCN := Hid.mk (show ∀ i, i < cn pl (N : Int) → (1 ≤ N ∧ i + N ≤ pl) ∧ (grs P (N : Int)).getD i [] = gr P N i ∧ i < (grs P (N : Int)).length from fun i hi => by
        have h5 := cn_fit hi
        rw [Int.toNat_natCast] at h5
        rw [← hpl] at hi
        have h6 := grs_get hi
        rw [Int.toNat_natCast] at h6
        exact ⟨⟨by omega, h5.2.1⟩, h6, by rw [grs_len]; exact hi⟩)
      have HCE := Hid.mk (show cn pl (N : Int) = (grs P (N : Int)).length by rw [grs_len, hpl])
      rw [hpl] at HP hPl hpc hao cp2
      clear st hP hPc hPe hcnt HR hpl cp
      have hseq := fun W => views_in (n - 1) (by omega) (wr.heap.size + 1) wr.heap.size w.heap.size po pl pc (N : Int) (by omega) (by omega) hpc hao W
      rw [Int.toNat_natCast] at hseq
      gi_wp2_with (refine ⟨trivial, ?_⟩; gi_at_call 39; refine (views_call _ _ _ _ _ _).mono ?_; rintro e w6 ⟨rfl, hw6⟩; obtain ⟨hm6, bp, bn⟩ := two_boxes hw6; have H6 := Hid.mk (And.intro hm6 (And.intro bp (And.intro bn bn.lt))); clear hw6 hm6 bp bn)
      have hdl := HP.out.2.dl
      have hs6 := H6.out.1.size
      have hn6 := H6.out.2.2.2
      refine range_set rfl h1 (gf := 63) (lb := #[.pointer (some ⟨wr.heap.size + 1, 0, none⟩), .pointer (some ⟨wr.heap.size, 0, none⟩)]) rfl trivial (enters_of Try.func63 (by kernel_rfl) rfl)
        (hseq w6) (by omega) (Below.refl _ _) (fun _ => rfl)
        (fun pre E V => CtSt w w1.heap.size (.slice uo N uc) (cnt + ctk (grs P (N : Int)) g pre.length) ds V ∧ VwK (wr.heap.size + 1) wr.heap.size po pl pc (N : Int) V ∧ ∀ j, j < w6.heap.size → E j)
        (fun _ _ _ _ => False)
        (fun s E A A' ⟨h2, h3, h4⟩ k => ⟨h2.under k (fun j hj => h4 j (by omega)) (h4 _ (by omega)) (fun d hd D he => h4 D (by have := hdl d hd D he; omega)), ⟨k.boxed h3.1 (h4 _ (by omega)), k.boxed h3.2 (h4 _ hn6)⟩, h4⟩)
        (fun _ _ _ _ _ h _ => h)
        (fun s E A h => h.2.1)
        ⟨by rw [List.length_nil, ctk_zero, Nat.add_zero]; exact HP.out.2.later H6.out.1, ⟨H6.out.2.1, H6.out.2.2.1⟩, fun _ h => h⟩
        (fun c => { tmps := #[.slice (some ⟨gb, ob, none⟩) k cb, .slice uo N uc, undef, .pointer (some ⟨w.heap.size, 0, none⟩), .int .i64 0, .pointer (some ⟨w1.heap.size, 0, none⟩), undef, .slice po pl pc, undef, vwOf po N pc c, .slice (some ⟨gb, ob, none⟩) k cb, .int .i64 k, .int .i64 r, .bool true, .pointer (some ⟨gb, ob + r, none⟩), .slice po pl pc, .slice po pl pc, .slice uo N uc, .int .i64 N, .func (.func 63) #[] #[.pointer (some ⟨wr.heap.size + 1, 0, none⟩), .pointer (some ⟨wr.heap.size, 0, none⟩)], .int .i64 c, vwOf po N pc c, u22, u23, u24, u25, u26, u27, u28], defers := [] }) ?assign ?body ?done ?stop
      case assign =>
        intro l2 x V K' hK'
        gi_wp2
        exact hK'
      case body =>
        rintro l2 pre c V E ⟨c', hc', hSp⟩ ⟨st, hvw, hE⟩ hwE _ hszV hlen
        have hcl2 : c = pre.length := by
          have h5 := congrArg List.length hSp
          simp at h5
          subst h5
          rw [List.range_succ] at hSp
          have := (List.append_inj' hSp rfl).2
          simpa using this
        have HL : Hid ((pre ++ [c]).length = c + 1) := Hid.mk (by rw [List.length_append, List.length_singleton, hcl2])
        rw [← hcl2] at st hlen
        clear hSp hcl2
        have hd : 1 ≤ n - 1 - 1 := by omega
        have hci := HCN.out c hlen
        obtain ⟨b, o, rfl⟩ := hao (by omega)
        have hgm : IL V (vwOf (some ⟨b, o, none⟩) N pc c) (gr P N c) := by
          have h5 := HP.out.1.more st.more
          rw [← HPL.out] at h5 hci
          exact h5.gram hci.1.2 hci.1.1 _
        have heq := eq_ints _ _ _ _ V hgm (HA.out.2.more st.more) (by rw [gr_len (by rw [HPL.out]; exact hci.1.2)]; omega)
        have cg := st.bg.cell
        have hck := ctk_le (grs P (N : Int)) g c
        obtain ⟨vv, hvv⟩ : ∃ vv, vwOf (some ⟨b, o, none⟩) N pc c = vv := ⟨_, rfl⟩
        rw [hvv] at heq ⊢
        obtain ⟨X, hX⟩ : ∃ X, cnt + ctk (grs P (N : Int)) g c = X := ⟨_, rfl⟩
        rw [hX] at st
        have HXe := Hid.mk hX
        have hXl : X ≤ 1000 := by omega
        have HS := Hid.mk (And.intro st (And.intro hvw hE))
        have hpo := H6.out.2.1.lt
        by_cases he : gr P N c = g
        · rw [decide_eq_true he] at heq
          have HT := Hid.mk (show ctk (grs P (N : Int)) g (c + 1) = ctk (grs P (N : Int)) g c + 1 from ctk_yes hci.2.2 (by rw [hci.2.1]; exact he))
          clear hgm hvv hX he hci st hvw hE hck
          gi_wp2_with (refine ⟨trivial, ?_⟩; gi_at_call 43; refine (CallsIn.inRound l2 (callsIn_wide.2 heq)).mono ?_; rintro e w7 ⟨rfl, q, hw7⟩; have hm7 : More V w7 := (by rw [hw7]; exact More.drewN _ _); clear hw7; have bc7 := boxed_more HS.out.1.bc hm7; have cc := bc7.cell; have fc := bc7.frozen; have H7 := Hid.mk hm7; clear bc7 hm7)
          have hlt := HS.out.1.bc.lt
          have st7 := (HS.out.1.later H7.out).set (X + 1) ((X : Int) + 1) (by simp)
          refine ⟨_, (Turn.of_more (lo := w.heap.size) (C := E) H7.out).setCell (p := ⟨w1.heap.size, 0, none⟩) (Nat.le_of_lt hs1) (.inl (HS.out.2.2 _ (show w1.heap.size < w6.heap.size by omega))) _, ?_, ⟨box_off (boxed_more HS.out.2.1.1 H7.out) (by omega) _ _, box_off (boxed_more HS.out.2.1.2 H7.out) (by omega) _ _⟩, fun j hj => .inl (HS.out.2.2 j hj)⟩
          rw [HL.out, HT.out, ← Nat.add_assoc, HXe.out]
          exact st7
        · rw [decide_eq_false he] at heq
          have HT := Hid.mk (show ctk (grs P (N : Int)) g (c + 1) = ctk (grs P (N : Int)) g c from ctk_no hci.2.2 (by rw [hci.2.1]; exact he))
          clear hgm hvv hX he hci st hvw hE hck
          gi_wp2_with (refine ⟨trivial, ?_⟩; gi_at_call 43; refine (CallsIn.inRound l2 (callsIn_wide.2 heq)).mono ?_; rintro e w7 ⟨rfl, q, hw7⟩; have hm7 : More V w7 := (by rw [hw7]; exact More.drewN _ _); clear hw7; have H7 := Hid.mk hm7; clear hm7)
          refine ⟨_, Turn.of_more (lo := w.heap.size) (C := E) H7.out, ?_, ⟨boxed_more HS.out.2.1.1 H7.out, boxed_more HS.out.2.1.2 H7.out⟩, fun j hj => .inl (HS.out.2.2 j hj)⟩
          rw [HL.out, HT.out, HXe.out]
          exact HS.out.1.later H7.out
      case done =>
        rintro D ys E V hD hED rfl ⟨st, hvw, hE⟩ _ _ hKD
        rw [List.length_range, HCE.out, ctk_all, ← HC.out] at st
        have HO := Hid.mk (show CtSt w w1.heap.size (.slice uo N uc) ((eac (L.take (r + 1)) (N : Int)).count g) ({ target := .collected D, args := #[] } :: ds) V from ⟨st.bg, st.bc, st.ne, st.more, .cons (by have := HP.out.2.more.size; omega) hKD (fun d hd he => by have := hdl d hd D he; omega) st.marks⟩)
        have hlt := st.bc.lt
        clear st hvw hE hseq
        gi_wp2
        exact ⟨⟨_, _, _, _, _, _, _, _, _, _, _, _, _, _, _, _, _, _, _, _, ⟨r + 1, by omega, by go_num, hlt, HO⟩, rfl⟩, by simp [intOf]; omega⟩
      case stop =>
        rintro D cc pre E V hD hED _ h _ _ _
        exact h.elim
    · obtain rfl : r = k := by omega
      have st := HR.out
      have cc := st.bc.cell
      have HF := Hid.mk (show L.take r = L by rw [← HX.out.1, List.take_length])
      have HS := Hid.mk st
      rw [HF.out] at cc
      clear st HR
      gi_wp2
      refine leaves_set (C := fun _ => False) HS.out.marks (fun _ _ _ _ h => h) fun w' _ hb => ?_
      refine ⟨.int .i64 ((eac L N).count g : Nat), by simp [results, Try.f20, go_sem], rfl, Below.trans HS.out.more hb⟩
theorem w_count (v u : Value) (L : List (List Int)) (g : List Int) (w : World) (h : LL w v L) (hu : IL w u g) (hl : L.length ≤ 12) (hx : ∀ x ∈ L, x.length ≤ 30) (hg : g.length ≤ 30) :
    Calls Try.prog 20 #[v, u] w fun e w' => e = .returned (.int .i64 ((eac L g.length).count g : Nat)) ∧ More w w' :=
  (callsIn_wide (n := 20)).1 (w_count_in 20 (by decide) v u L g w h hu hl hx hg)
end Go.Proofs.Ytiiflegfbieblaa
