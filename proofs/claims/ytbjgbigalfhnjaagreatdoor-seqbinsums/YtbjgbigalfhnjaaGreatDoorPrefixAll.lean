/-
  prefix's All, walked: the numbers of a sequence, each with its place, as long as it is told to go on.
-/
import Derived.Test.YtbjgbigalfhnjaaGreatDoorPrefixB
import Derived.Test.YtbjgbigalfhnjaaGreatDoorEliasAll
import Derived.Test.YtbjgbigalfhnjaaGreatDoorRangeSet
namespace Go.Proofs.YtbjgbigalfhnjaaGreatDoor
open Go.RowKit Go.Shelf
attribute [local go_sem] Oper.semAt_some

theorem pall_call (n q : Nat) (w : World) : CallsIn Fence.wide n Tryz.prog 26 #[.pointer (some ⟨q, 0, none⟩)] w fun e w' => e = .returned (.func (.func 61) #[] #[.pointer (some ⟨w.heap.size, 0, none⟩)]) ∧ w' = w.alloc (.cells #[.pointer (some ⟨q, 0, none⟩)] 26) := by
  refine callsIn_of_wp Tryz.func26 rfl trivial ?_ rfl
  simp only [Tryz.ntmps26, List.size_toArray, List.length_cons, List.length_nil, Nat.reduceAdd, Nat.reduceSub, Array.replicate_succ, Array.replicate_zero, List.push_toArray, List.append_toArray, List.nil_append, List.cons_append]
  gi_wp2
  go_ret
  exact ⟨rfl, rfl⟩

/-- The next one of a list that goes on. -/
theorem next_of {f : Nat → Nat} {pre : List (Int × Int)} {x1 x2 : Int} {c : Nat} (h : pre ++ [(x1, x2)] = allZ f c) : c = pre.length + 1 ∧ x1 = (pre.length : Int) ∧ x2 = (f pre.length : Int) := by
  have hl := congrArg List.length h
  rw [allZ_len] at hl
  simp at hl
  subst hl
  rw [allZ_succ] at h
  have := (List.append_inj' h rfl).2
  simp at this
  exact ⟨rfl, this.1, this.2⟩

/-- What All has laid, between two rounds; k sums have been handed over; none of it is the caller's. -/
structure PxSt (B : Nat) (wA : World) (l s k : Nat) (f : Nat → Nat) (C : Nat → Prop) (w : World) : Prop where
  b2 : Boxed w B 94 (.func (.yield l) #[] #[])
  b3 : Boxed w (B + 1) 3 (.int .i64 (sm f (k - 1) : Nat))
  b4 : Boxed w (B + 1 + 1) 49 (.pointer (some ⟨s, 0, none⟩))
  more : More wA w
  n2 : ¬ C B
  n3 : ¬ C (B + 1)
  n4 : ¬ C (B + 1 + 1)
  wi : Within C w
theorem PxSt.under {B : Nat} {wA : World} {l s k : Nat} {f : Nat → Nat} {C E : Nat → Prop} {w w' : World} (h : PxSt B wA l s k f C w) (m : Stay E w w') (hE : ∀ j, j < B + 1 + 1 + 1 → E j) (hA : wA.heap.size ≤ B) : PxSt B wA l s k f C w' :=
  ⟨m.boxed h.b2 (hE _ (by omega)), m.boxed h.b3 (hE _ (by omega)), m.boxed h.b4 (hE _ (by omega)), Below.trans h.more (m.below fun j hj => hE j (by omega)), h.n2, h.n3, h.n4, h.wi.more m.size⟩
theorem PxSt.turn {B : Nat} {wA : World} {l s k : Nat} {f : Nat → Nat} {C C' : Nat → Prop} {w w' : World} (h : PxSt B wA l s k f C w) (m : Turn wA.heap.size C C' w w') : PxSt B wA l s k f C' w' :=
  ⟨m.boxed h.b2 h.n2, m.boxed h.b3 h.n3, m.boxed h.b4 h.n4, Below.trans h.more (m.below h.more.size), m.off h.n2 h.b2.lt, m.off h.n3 h.b3.lt, m.off h.n4 h.b4.lt, m.within h.wi⟩
theorem PxSt.set {B : Nat} {wA : World} {l s k : Nat} {f : Nat → Nat} {C : Nat → Prop} {w : World} (h : PxSt B wA l s k f C w) (hA : wA.heap.size ≤ B) (j x : Nat) (hx : sm f (j - 1) = x) : PxSt B wA l s j f C (w.setCell ⟨B + 1, 0, none⟩ (.int .i64 (x : Nat))) :=
  ⟨h.b2.other (by omega) _, by rw [hx]; exact h.b3.set _, h.b4.other (by omega) _, h.more.setCell (p := ⟨B + 1, 0, none⟩) (by simp; omega) _, h.n2, h.n3, h.n4, h.wi.more (KeepsOthers.setCell w _ _).size⟩

set_option maxRecDepth 1000000 in
set_option maxHeartbeats 4000000 in
theorem pall_in (n : Nat) (hn : 16 ≤ n) (Bs base q : Nat) (f : Nat → Nat) (N : Nat) (wA : World) (hA : PxAt wA base q f N) (hT : TabIn wA) :
    SeqSet Fence.wide n Tryz.prog 61 #[.pointer (some ⟨Bs, 0, none⟩)] encP wA.heap.size (fun A => Boxed A Bs 26 (.pointer (some ⟨q, 0, none⟩))) (fun xs => xs = allZ f N) (fun pre => ∃ c, c ≤ N ∧ pre = allZ f c) N wA := by
  intro l J Jx W C0 hW hC0 hlo hJ hJx hKp hY h0
  have bs := hKp _ _ _ h0
  have h1 : 1 ≤ n := by omega
  have hNb := hA.num
  have htop := hA.top
  obtain ⟨wz, hwz⟩ : ∃ wz, (W.alloc (.cells #[.func (.yield l) #[] #[]] 94)).alloc (.cells #[.int .i64 0] 3) = wz := ⟨_, rfl⟩
  have hmz : More W wz := by rw [← hwz]; exact (more_alloc _ _).alloc (more_alloc _ _).size _
  have bz2 : Boxed wz W.heap.size 94 (.func (.yield l) #[] #[]) := by rw [← hwz]; exact (Boxed.new _ _ _).alloc _
  have bz3 : Boxed wz (W.heap.size + 1) 3 (.int .i64 0) := by
    have := Boxed.new (W.alloc (.cells #[.func (.yield l) #[] #[]] 94)) 3 (.int .i64 0)
    rw [World.size_alloc] at this
    rw [← hwz]; exact this
  have hsz : wz.heap.size = W.heap.size + 1 + 1 := by rw [← hwz]; simp
  have cz := bz3.cell
  have fz := bz3.frozen
  obtain ⟨w0, hw0⟩ : ∃ w0, wz.setCell ⟨W.heap.size + 1, 0, none⟩ (.int .i64 0) = w0 := ⟨_, rfl⟩
  have hm0 : More W w0 := by rw [← hw0]; exact hmz.setCell (p := ⟨W.heap.size + 1, 0, none⟩) (by simp) _
  have b2 : Boxed w0 W.heap.size 94 (.func (.yield l) #[] #[]) := by rw [← hw0]; exact bz2.other (by omega) _
  have b3 : Boxed w0 (W.heap.size + 1) 3 (.int .i64 0) := by rw [← hw0]; exact bz3.set _
  have hs0 : w0.heap.size = W.heap.size + 1 + 1 := by rw [← hw0, ← hsz]; simp
  have hA0 := More.trans hW hm0
  have cs0 := (boxed_more bs (more_alloc W (.cells #[.func (.yield l) #[] #[]] 94))).cell
  have cs := (boxed_more bs hm0).cell
  obtain ⟨s, cA, hs⟩ := hA.rd
  have lq := World.block_lt_of_cell? wA _ cA
  have c0 := (hA0.cell (p := ⟨q, 0, none⟩) lq).trans cA
  have hseq := eall_in (n - 1) (by omega) (W.heap.size + 1 + 1) base s (sm f) (N + 1) wA hs hT
  have HH := Hid.mk (And.intro b2 (And.intro b3 (And.intro hm0 hA0)))
  clear hA hT hs b2 b3 hm0 hA0 cA bs hmz bz2 bz3 hsz
  refine callsIn_of_wp_marks Tryz.func61 rfl trivial ?_ rfl
  simp only [Tryz.ntmps61, List.size_toArray, List.length_cons, List.length_nil, Nat.reduceAdd, Nat.reduceSub, Array.replicate_succ, Array.replicate_zero, List.push_toArray, List.append_toArray, List.nil_append, List.cons_append]
  gi_wp2_with (refine ⟨trivial, ?_⟩; gi_at_call 62; refine (eall_call _ _ _).mono ?_; rintro e w' ⟨rfl, hw'⟩; subst w')
  obtain ⟨w1, hw1⟩ : ∃ w1, w0.alloc (.cells #[.pointer (some ⟨s, 0, none⟩)] 49) = w1 := ⟨_, rfl⟩
  have hm1 : More w0 w1 := by rw [← hw1]; exact more_alloc _ _
  have hs1 : w1.heap.size = W.heap.size + 1 + 1 + 1 := by rw [← hw1]; simp [hs0]
  have b4 : Boxed w1 (W.heap.size + 1 + 1) 49 (.pointer (some ⟨s, 0, none⟩)) := by rw [← hw1, ← hs0]; exact Boxed.new _ _ _
  have hA1 := More.trans HH.out.2.2.2 hm1
  have hW1 := More.trans HH.out.2.2.1 hm1
  have st1 : PxSt W.heap.size wA l s 0 f C0 w1 := ⟨boxed_more HH.out.1 hm1, boxed_more HH.out.2.1 hm1, b4, hA1, (fun h => by have := hC0 _ h; omega), (fun h => by have := hC0 _ h; omega), (fun h => by have := hC0 _ h; omega), hC0.more hW1.size⟩
  rw [hw1]
  clear hw1 hw0 hwz cz fz cs cs0 c0 HH b4
  refine range_set rfl h1 (gf := 88) (lb := #[.pointer (some ⟨W.heap.size + 1 + 1, 0, none⟩)]) rfl trivial (enters_of Tryz.func88 (by kernel_rfl) rfl)
    hseq (by omega) hA1 (fun _ => rfl)
    (fun pre E V => ∃ C, J (allZ f (pre.length - 1)) C V ∧ PxSt W.heap.size wA l s pre.length f C V ∧ (∀ k, C k → E k) ∧ (∀ k, k < w1.heap.size → E k))
    (fun c _ E V => c = .ret ∧ ∃ C e, e ≤ N ∧ Jx (allZ f e) C V ∧ Within C V ∧ (∀ k, C k → E k))
    (fun s E A A' ⟨C, h1, h2, h3, h4⟩ k => ⟨C, hJ _ _ _ _ h1 (k.sub h3), h2.under k (fun j hj => h4 j (by omega)) hlo, h3, h4⟩)
    (fun c s E A A' ⟨h0, C, e, h1, h2, h3, h4⟩ k => ⟨h0, C, e, h1, hJx _ _ _ _ h2 (k.sub h4), h3.more k.size, h4⟩)
    (fun _ _ _ ⟨_, _, h, _⟩ => h.b4) ⟨C0, hJ _ _ _ _ h0 (Stay.of_more hW1 hC0), st1, (fun k hk => by have := hC0 _ hk; omega), (fun _ h => h)⟩
    (fun x => { tmps := #[.func (.yield l) #[] #[], .pointer (some ⟨Bs, 0, none⟩), .pointer (some ⟨W.heap.size, 0, none⟩), .pointer (some ⟨W.heap.size + 1, 0, none⟩), .int .i64 x.1, .int .i64 x.2, .pointer (some ⟨q, 0, none⟩), .bool false, .pointer (some ⟨q, 0, none⟩), .pointer (some ⟨q, 0, none⟩), .pointer (some ⟨q, 0, none⟩), .pointer (some ⟨s, 0, none⟩), .func (.func 88) #[] #[.pointer (some ⟨W.heap.size + 1 + 1, 0, none⟩)], .int .i64 x.1, .int .i64 x.2, undef, undef, undef, undef, undef, undef, undef, undef, undef, undef, undef, undef, undef], defers := [] }) ?assign ?body ?done ?stop
  case assign =>
    intro l2 x V K' hK'
    gi_wp2
    exact hK'
  case body =>
    rintro l2 pre ⟨x1, x2⟩ V E ⟨c, hc, hSp⟩ ⟨C, hJs, st, hCE, hE⟩ hwE _ hsz hlen
    obtain ⟨rfl, rfl, rfl⟩ := next_of hSp
    clear hSp
    have hd : 1 ≤ n - 1 - 1 := by omega
    have hd2 : 1 ≤ n - 1 - 1 - 1 := by omega
    obtain ⟨k, hk⟩ : ∃ k, pre.length = k := ⟨_, rfl⟩
    have HL : Hid (∀ x : Int × Int, (pre ++ [x]).length = k + 1) := Hid.mk fun x => by rw [List.length_append, List.length_singleton, hk]
    rw [hk] at hJs hlen hc st ⊢
    clear hk
    cases k with
    | zero =>
      have c3 := st.b3.cell
      have f3 := st.b3.frozen
      have hz : Hid (sm f 0 = 0) := Hid.mk rfl
      have HO := Hid.mk (show Turn wA.heap.size E E V (V.setCell ⟨W.heap.size + 1, 0, none⟩ (.int .i64 (sm f 0 : Nat))) ∧ J (allZ f (0 + 1 - 1)) C (V.setCell ⟨W.heap.size + 1, 0, none⟩ (.int .i64 (sm f 0 : Nat))) ∧ PxSt W.heap.size wA l s (0 + 1) f C (V.setCell ⟨W.heap.size + 1, 0, none⟩ (.int .i64 (sm f 0 : Nat))) from
        ⟨(Turn.refl _ _ _).setCell (p := ⟨W.heap.size + 1, 0, none⟩) (by simp; omega) (hE _ (by simp; omega)) _, hJ _ _ _ _ hJs ((Stay.refl C V).setCell (p := ⟨W.heap.size + 1, 0, none⟩) st.n3 _), st.set hlo (0 + 1) _ rfl⟩)
      clear st hJs
      gi_wp2
      refine ⟨(fun _ h => by cases h), ?_⟩
      gi_wp2
      refine ⟨E, HO.out.1, C, ?_, ?_, hCE, hE⟩
      · rw [HL.out]; exact HO.out.2.1
      · rw [HL.out]; exact HO.out.2.2
    | succ j =>
      have c2 := st.b2.cell
      have c3 := st.b3.cell
      have hj1 : (((j + 1 : Nat) : Int)) - 1 = (j : Int) := by omega
      have hX : sm f (j + 1) = sm f j + f j := rfl
      have hXb := Nat.le_trans (sm_mono f (show j + 1 ≤ N by omega)) htop
      rw [show j + 1 - 1 = j from rfl] at hJs c3
      have hsc : allZ f (j + 1) = allZ f j ++ [((j : Int), (f j : Int))] := allZ_succ f j
      obtain ⟨X, hXe⟩ : ∃ X, sm f (j + 1) = X := ⟨_, rfl⟩
      obtain ⟨Y, hYe⟩ : ∃ Y, sm f j = Y := ⟨_, rfl⟩
      obtain ⟨Z, hZe⟩ : ∃ Z, f j = Z := ⟨_, rfl⟩
      have HE := Hid.mk (And.intro hXe hYe)
      rw [hXe, hYe, hZe] at hX
      rw [hXe] at hXb ⊢
      rw [hYe] at c3
      rw [hZe] at hsc
      have hsub : (X : Int) - (Y : Int) = (Z : Int) := by omega
      have hwZ : IntKind.i64.wrap (Z : Int) = (Z : Int) := by rw [IntKind.wrap_i64]; omega
      obtain ⟨fn, tmps, assign, body, hy, hRd⟩ := hY (allZ f j) ((j : Int), (Z : Int)) V C ⟨j + 1, by omega, hsc.symm⟩ hJs st.wi (by omega) (by rw [allZ_len]; omega)
      dsimp only [encP] at hy
      rw [← hsc] at hRd
      have hRd' := RoundIn.within (m' := n - 1 - 1 - 1) (l2 := l2) hRd
      clear hRd hY hX hXe hYe hZe hsc hseq
      gi_wp2
      refine hRd'.mono ?_
      clear hRd' hy
      rintro e W3 ⟨C', (⟨rfl, hJ3, ho3⟩ | ⟨rfl, hJ3, ho3⟩)⟩
      · have st3 := st.turn ho3
        have c33 := st3.b3.cell
        have f33 := st3.b3.frozen
        have HO := Hid.mk (show Turn wA.heap.size E (fun k => E k ∨ (V.heap.size ≤ k ∧ k < W3.heap.size)) V (W3.setCell ⟨W.heap.size + 1, 0, none⟩ (.int .i64 (X : Nat))) ∧ J (allZ f (j + 1 + 1 - 1)) C' (W3.setCell ⟨W.heap.size + 1, 0, none⟩ (.int .i64 (X : Nat))) ∧ PxSt W.heap.size wA l s (j + 1 + 1) f C' (W3.setCell ⟨W.heap.size + 1, 0, none⟩ (.int .i64 (X : Nat))) ∧ (∀ k, C' k → E k ∨ (V.heap.size ≤ k ∧ k < W3.heap.size)) from
          ⟨(ho3.wide hCE).setCell (p := ⟨W.heap.size + 1, 0, none⟩) (by simp; omega) (.inl (hE _ (by simp; omega))) _, hJ _ _ _ _ hJ3 ((Stay.refl C' W3).setCell (p := ⟨W.heap.size + 1, 0, none⟩) st3.n3 _), st3.set hlo (j + 1 + 1) X HE.out.1, ho3.wider hCE⟩)
        clear st3 hJ3 ho3 st
        gi_wp2
        refine ⟨_, HO.out.1, C', ?_, ?_, HO.out.2.2.2, fun k hk => .inl (hE k (by omega))⟩
        · rw [HL.out]; exact HO.out.2.1
        · rw [HL.out]; exact HO.out.2.2.1
      · have HO := Hid.mk (And.intro (ho3.wide hCE) (And.intro hJ3 (And.intro (ho3.within st.wi) (ho3.wider hCE))))
        clear hJ3 ho3 st
        gi_wp2
        exact ⟨_, HO.out.1, rfl, C', j + 1, by omega, HO.out.2.1, HO.out.2.2.1, HO.out.2.2.2⟩
  case done =>
    rintro D ys E V hD hED rfl ⟨C, hJs, st, hCE, hE⟩ _ _ hKD
    rw [allZ_len, show N + 1 - 1 = N from rfl] at hJs
    gi_wp2
    exact leaves_set (C := C) (B := W.heap.size) (.cons (by omega) hKD (fun _ h => by cases h) .nil) (one_mark fun h => hED (hCE _ h)) fun w' hw' _ => ⟨_, results_none rfl _ _ _, ⟨_, rfl⟩, .inl ⟨_, C, rfl, hJ _ _ _ _ hJs hw', st.wi.stay hw'⟩⟩
  case stop =>
    rintro D cc pre E V hD hED _ ⟨rfl, C, e, he, hjx, hwi, hCE⟩ _ _ hKD
    gi_wp2
    exact leaves_set (C := C) (B := W.heap.size) (.cons (by omega) hKD (fun _ h => by cases h) .nil) (one_mark fun h => hED (hCE _ h)) fun w' hw' _ => ⟨_, results_none rfl _ _ _, ⟨_, rfl⟩, .inr ⟨_, C, ⟨e, he, rfl⟩, hJx _ _ _ _ hjx hw', hwi.stay hw'⟩⟩

end Go.Proofs.YtbjgbigalfhnjaaGreatDoor
