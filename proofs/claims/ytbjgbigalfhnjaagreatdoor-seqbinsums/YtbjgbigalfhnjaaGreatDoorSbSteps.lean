/-
  seqbin's steps: how much each number but the first is above the one ahead.
-/
import Derived.Test.YtbjgbigalfhnjaaGreatDoorSet21
import Derived.Test.YtbjgbigalfhnjaaGreatDoorPrefixB
import Derived.Maps.OwnIn
namespace Go.Proofs.YtbjgbigalfhnjaaGreatDoor
open Go.RowKit Go.Shelf
attribute [local go_sem] Oper.semAt_some

theorem own_stay {C : Nat → Prop} {w w' : World} {base : Nat} {e : TypeId} {size : Nat} {v : Value} {n : Nat} {xs : List Value} (h : w.ownsRow base e size v n xs) (hB : ∀ k, v.ownBlock = some k → C k) (k : Stay C w w') : w'.ownsRow base e size v n xs :=
  ⟨h.1, h.2.imp id fun ⟨g, cap, cur, hv, h1, hg, rest⟩ => ⟨g, cap, cur, hv, h1, (k.block g (hB g (by rw [hv]; rfl))).trans hg, rest⟩⟩
/-- How much the next number is above this one. -/
def stp (f : Nat → Nat) (i : Nat) : Nat := f (i + 1) - f i

/-- Between two rounds of steps: k numbers have come. -/
structure StI (wA : World) (B s : Nat) (f : Nat → Nat) (k : Nat) (E : Nat → Prop) (V : World) : Prop where
  row : ∃ v, Boxed V (B + 1) 22 v ∧ V.ownsRow B 3 1 v (k - 1) (ints (stp f) (k - 1)) ∧ ∀ j, v.ownBlock = some j → E j ∧ (j = B ∨ B + 1 + 1 + 1 + 1 ≤ j)
  b4 : Boxed V (B + 1 + 1) 3 (.int .i64 ((if k = 0 then 0 else f (k - 1) : Nat) : Int))
  bs : Boxed V (B + 1 + 1 + 1) 49 (.pointer (some ⟨s, 0, none⟩))
  more : More wA V
  low : ∀ j, j < B + 1 + 1 + 1 + 1 → E j
  sz : B ≤ V.heap.size
theorem StI.stay {wA : World} {B s : Nat} {f : Nat → Nat} {k : Nat} {E : Nat → Prop} {V V' : World} (h : StI wA B s f k E V) (st : Stay E V V') (hB : wA.heap.size ≤ B) : StI wA B s f k E V' := by
  obtain ⟨v, h1, h2, h3⟩ := h.row
  exact ⟨⟨v, st.boxed h1 (h.low _ (by omega)), own_stay h2 (fun j hj => (h3 j hj).1) st, h3⟩, st.boxed h.b4 (h.low _ (by omega)), st.boxed h.bs (h.low _ (by omega)), Below.trans h.more (st.below fun j hj => h.low j (by omega)), h.low, Nat.le_trans h.sz st.size⟩

/-- An append to a slice of the caller's, as a round's doing. -/
theorem turn_append {lo : Nat} {E : Nat → Prop} {V Va w2 : World} {v : Value} (hm : More V Va) (hg : Va.grownBy w2 v.ownBlock) (hv : ∀ j, v.ownBlock = some j → E j ∧ lo ≤ j) : Turn lo E (fun k => E k ∨ (V.heap.size ≤ k ∧ k < w2.heap.size)) V w2 :=
  ⟨hg.os.trans hm.os, hg.tape.trans hm.tape, hg.output.trans hm.output, Nat.le_trans hm.size hg.size, fun k hk hd => by
    rw [hg.block k (Nat.lt_of_lt_of_le hk hm.size) (fun e => ?_), hm.block k hk]
    have h := hv k e.symm
    rcases hd with h1 | h1
    · omega
    · exact h1 h.1, fun _ => Iff.rfl⟩

set_option maxRecDepth 1000000 in
set_option maxHeartbeats 4000000 in
theorem sb_steps (n : Nat) (hn : 16 ≤ n) (base s : Nat) (f : Nat → Nat) (N : Nat) (w : World) (hA : SeqAt w base s f N) (hT : TabIn w) (hN0 : 0 < N) :
    CallsIn Fence.wide n Tryz.prog 28 #[.pointer (some ⟨s, 0, none⟩)] w fun e w' => ∃ v, e = .returned v ∧ w'.ownsRow w.heap.size 3 1 v (N - 1) (ints (stp f) (N - 1)) ∧ More w w' := by
  have h1 : 1 ≤ n := by omega
  have hNb := hA.num
  have hCl := hA.climbs
  obtain ⟨i0, hi, hz0, hz1, hz2⟩ := info_parts Tryz.infoInt
  have hlen := el_len base s f N w hA
  have hseq := eall_in (n - 1) (by omega) (w.heap.size + 1 + 1 + 1) base s f N w hA hT
  obtain ⟨wa, hwa⟩ : ∃ wa, w.alloc (.cells (madeCells #[.int .i64 0] N) 3) = wa := ⟨_, rfl⟩
  have hmake : (Instr.makeSlice 22 (.int .i64 0) (.int .i64 (N : Int))).run Tryz.prog w = .ok (.slice (some ⟨w.heap.size, 0, none⟩) 0 N) wa := by
    have hr := run_make (P := Tryz.prog) w 22 3 i0 (.int .i64 0) Tryz.underlying22 hi hz0 .i64 .i64 0 N (by omega) (by omega) (by rw [hz2]; omega) (by omega)
    simp only [Int.toNat_natCast, Int.toNat_zero, hz1, Nat.mul_one] at hr
    rw [← hwa]; exact hr
  have hsa : wa.heap.size = w.heap.size + 1 := by rw [← hwa]; simp
  have hma : More w wa := by rw [← hwa]; exact more_alloc _ _
  have hrow0 : wa.ownsRow w.heap.size 3 1 (.slice (some ⟨w.heap.size, 0, none⟩) 0 N) 0 [] := by
    rw [← hwa]; exact World.ownsRow_made w _ N (Nat.le_refl _) (by unfold maxLen; omega) (by rw [size_madeCells, Nat.mul_one])
  obtain ⟨wb, hwb⟩ : ∃ wb, wa.alloc (.cells #[.slice none 0 0] 22) = wb := ⟨_, rfl⟩
  have bb : Boxed wb (w.heap.size + 1) 22 (.slice none 0 0) := by rw [← hwb, ← hsa]; exact Boxed.new _ _ _
  have hsb : wb.heap.size = w.heap.size + 1 + 1 := by rw [← hwb]; simp [hsa]
  have hmb : More wa wb := by rw [← hwb]; exact more_alloc _ _
  have cb := bb.cell
  have fb := bb.frozen
  obtain ⟨wc, hwc⟩ : ∃ wc, wb.setCell ⟨w.heap.size + 1, 0, none⟩ (.slice (some ⟨w.heap.size, 0, none⟩) 0 N) = wc := ⟨_, rfl⟩
  have bc : Boxed wc (w.heap.size + 1) 22 (.slice (some ⟨w.heap.size, 0, none⟩) 0 N) := by rw [← hwc]; exact bb.set _
  have hsc : wc.heap.size = w.heap.size + 1 + 1 := by rw [← hwc, ← hsb]; simp
  have hmc : More wa wc := by rw [← hwc]; exact hmb.setCell (p := ⟨w.heap.size + 1, 0, none⟩) (by first | (simp; done) | (simp; omega)) _
  obtain ⟨wd, hwd⟩ : ∃ wd, wc.alloc (.cells #[.int .i64 0] 3) = wd := ⟨_, rfl⟩
  have bd : Boxed wd (w.heap.size + 1 + 1) 3 (.int .i64 0) := by rw [← hwd, ← hsc]; exact Boxed.new _ _ _
  have hsd : wd.heap.size = w.heap.size + 1 + 1 + 1 := by rw [← hwd]; simp [hsc]
  have hmd : More wc wd := by rw [← hwd]; exact more_alloc _ _
  have cd := bd.cell
  have fd := bd.frozen
  obtain ⟨we, hwe⟩ : ∃ we, wd.setCell ⟨w.heap.size + 1 + 1, 0, none⟩ (.int .i64 0) = we := ⟨_, rfl⟩
  have be : Boxed we (w.heap.size + 1 + 1) 3 (.int .i64 0) := by rw [← hwe]; exact bd.set _
  have be1 : Boxed we (w.heap.size + 1) 22 (.slice (some ⟨w.heap.size, 0, none⟩) 0 N) := by rw [← hwe]; exact (boxed_more bc hmd).other (by omega) _
  have hse : we.heap.size = w.heap.size + 1 + 1 + 1 := by rw [← hwe, ← hsd]; simp
  have hme : More wa we := by rw [← hwe]; exact (More.trans hmc hmd).setCell (p := ⟨w.heap.size + 1 + 1, 0, none⟩) (by simp; omega) _
  have HH := Hid.mk (And.intro be (And.intro be1 (And.intro (More.trans hma hme) (More.own hrow0 hme))))
  clear hA hT be be1 hme hma hrow0 hmb hmc hmd bc bd bb
  refine callsIn_of_wp_marks Tryz.func28 rfl trivial ?_ rfl
  simp only [Tryz.ntmps28, List.size_toArray, List.length_cons, List.length_nil, Nat.reduceAdd, Nat.reduceSub, Array.replicate_succ, Array.replicate_zero, List.push_toArray, List.append_toArray, List.nil_append, List.cons_append]
  gi_wp2_with (first
    | (refine ⟨trivial, ?_⟩; gi_at_call 22; refine (callsIn_wide.2 hlen).mono ?_; rintro e w' ⟨rfl, hw'⟩; subst w')
    | (refine ⟨trivial, ?_⟩; gi_at_call 62; refine (eall_call _ _ _).mono ?_; rintro e w' ⟨rfl, hw'⟩; subst w'))
  obtain ⟨w1, hw1⟩ : ∃ w1, we.alloc (.cells #[.pointer (some ⟨s, 0, none⟩)] 49) = w1 := ⟨_, rfl⟩
  have hm1 : More we w1 := by rw [← hw1]; exact more_alloc _ _
  have hs1 : w1.heap.size = w.heap.size + 1 + 1 + 1 + 1 := by rw [← hw1]; simp [hse]
  have b5 : Boxed w1 (w.heap.size + 1 + 1 + 1) 49 (.pointer (some ⟨s, 0, none⟩)) := by rw [← hw1, ← hse]; exact Boxed.new _ _ _
  have hA1 := More.trans HH.out.2.2.1 hm1
  have st1 : StI w w.heap.size s f 0 (fun k => k < w1.heap.size) w1 := ⟨⟨_, boxed_more HH.out.2.1 hm1, More.own HH.out.2.2.2 hm1, fun j hj => by simp [Value.ownBlock] at hj; subst hj; exact ⟨by omega, .inl rfl⟩⟩, boxed_more HH.out.1 hm1, b5, hA1, fun j hj => by rw [hs1]; exact hj, hA1.size⟩
  rw [hw1]
  clear hw1 hwa hwb hwc hwd hwe HH b5 cb fb cd fd hmake hlen hsa hsb hsc hsd hse
  refine range_set rfl h1 (gf := 88) (lb := #[.pointer (some ⟨w.heap.size + 1 + 1 + 1, 0, none⟩)]) rfl trivial (enters_of Tryz.func88 (by kernel_rfl) rfl)
    hseq (by omega) hA1 (fun _ => rfl)
    (fun pre E V => StI w w.heap.size s f pre.length E V)
    (fun _ _ _ _ => False)
    (fun s E A A' h k => h.stay k (Nat.le_refl _))
    (fun _ _ _ _ _ h _ => h)
    (fun _ _ _ h => h.bs) st1
    (fun x => { tmps := #[.pointer (some ⟨s, 0, none⟩), undef, .slice none 0 0, .pointer (some ⟨w.heap.size + 1, 0, none⟩), .pointer (some ⟨w.heap.size + 1 + 1, 0, none⟩), .int .i64 x.1, .int .i64 x.2, .pointer (some ⟨s, 0, none⟩), .int .i64 N, .slice (some ⟨w.heap.size, 0, none⟩) 0 N, .pointer (some ⟨s, 0, none⟩), .func (.func 88) #[] #[.pointer (some ⟨w.heap.size + 1 + 1 + 1, 0, none⟩)], .int .i64 x.1, .int .i64 x.2, undef, undef, undef, undef, undef, undef, undef, undef, undef, undef], defers := [] }) ?assign ?body ?done ?stop
  case assign =>
    intro l2 x V K' hK'
    gi_wp2
    exact hK'
  case body =>
    rintro l2 pre ⟨x1, x2⟩ V E ⟨c, hc, hSp⟩ st hwE hlw hszV hlenN
    obtain ⟨rfl, rfl, rfl⟩ := one_next hSp
    clear hSp
    have hd : 1 ≤ n - 1 - 1 := by omega
    obtain ⟨k, hk⟩ : ∃ k, pre.length = k := ⟨_, rfl⟩
    have HL : Hid (∀ x : Int × Int, (pre ++ [x]).length = k + 1) := Hid.mk fun x => by rw [List.length_append, List.length_singleton, hk]
    rw [hk] at st hlenN hc ⊢
    clear hk hseq hm1 hA1 st1
    cases k with
    | zero =>
      obtain ⟨v, h2, h3, h4⟩ := st.row
      have c4 := st.b4.cell
      have f4 := st.b4.frozen
      rw [if_pos rfl] at c4
      obtain ⟨X, hX⟩ : ∃ X, f 0 = X := ⟨_, rfl⟩
      rw [hX]
      have HO := Hid.mk (show Turn w.heap.size E E V (V.setCell ⟨w.heap.size + 1 + 1, 0, none⟩ (.int .i64 X)) ∧ StI w w.heap.size s f (0 + 1) E (V.setCell ⟨w.heap.size + 1 + 1, 0, none⟩ (.int .i64 X)) from
        ⟨(Turn.refl _ _ _).setCell (p := ⟨w.heap.size + 1 + 1, 0, none⟩) (by simp; omega) (st.low _ (by simp)) _, ⟨v, h2.other (by omega) _, (h3.kept (grownBy_setCell' V (w.heap.size + 1 + 1) _) (by
          cases hv : v.ownBlock with
          | none => exact .inl rfl
          | some j => exact .inr (fun e => by have h5 := (h4 j hv).2; have h6 : j = w.heap.size + 1 + 1 := Option.some.inj e; omega))), h4⟩, by have := st.b4.set (.int .i64 X); rw [if_neg (by omega), show 0 + 1 - 1 = 0 from rfl, hX]; exact this, st.bs.other (by omega) _, st.more.setCell (p := ⟨w.heap.size + 1 + 1, 0, none⟩) (by simp; omega) _, st.low, Nat.le_trans st.sz (KeepsOthers.setCell V _ _).size⟩)
      clear st h2 h3 h4 hX
      gi_wp2
      refine ⟨E, HO.out.1, ?_⟩
      dsimp only
      rw [HL.out]
      exact HO.out.2
    | succ k =>
      obtain ⟨v, h2, h3, h4⟩ := st.row
      rw [show k + 1 - 1 = k from rfl] at h3
      obtain ⟨av, cv, rfl⟩ := shape_of h3
      have c3 := h2.cell
      have f3' := h2.frozen
      have c4 := st.b4.cell
      rw [if_neg (by omega), show k + 1 - 1 = k from rfl] at c4
      have hup := hCl.up k (by omega)
      have htop := hCl.top (k + 1) (by omega)
      obtain ⟨X, hX⟩ : ∃ X, f (k + 1) = X := ⟨_, rfl⟩
      obtain ⟨Y, hY⟩ : ∃ Y, f k = Y := ⟨_, rfl⟩
      rw [hX, hY] at hup
      rw [hX] at htop ⊢
      rw [hY] at c4
      obtain ⟨Z, hZ⟩ : ∃ Z, X - Y = Z := ⟨_, rfl⟩
      have e1 : (X : Int) - (Y : Int) = (Z : Int) := by omega
      have hwZ : IntKind.i64.wrap (Z : Int) = Z := by rw [IntKind.wrap_i64]; omega
      have hZe : Hid (stp f k = Z) := Hid.mk (by unfold stp; rw [hX, hY, hZ])
      have HS := Hid.mk (And.intro st (And.intro h2 (And.intro h3 (And.intro h4 hX))))
      have hk0 : (0 : Int) < ((k + 1 : Nat) : Int) := by omega
      have hsV := st.sz
      clear st h2 h3 h4 hX hY hZ
      gi_wp2_with (gi_at_builtin; refine wpListIn_append_own_at _ rfl (.tmp 16) (.tmp 20) 22 rfl w.heap.size 3 i0 (.int .i64 0) 1 8 Tryz.underlying22 hi hz0 hz1 hz2 rfl (by decide) _ _ _ rfl (HS.out.2.2.1.alloc _) ⟨V.heap.size, 0, none⟩ 1 1 [.int .i64 (Z : Int)] rfl rfl (one_cell _ _ _) (one_i64 _) (by unfold maxLen; omega) (by omega) (by simp; omega) ?_)
      intro v2 w2 hown2 hg2 _ hat2
      obtain ⟨st, h2, h3, h4, hXe⟩ := HS.out
      rw [← hZe.out, ← ints_succ] at hown2
      have hVa : More V (V.alloc (.cells #[.int .i64 (Z : Int)] 3)) := more_alloc _ _
      have htu := turn_append (lo := w.heap.size) hVa hg2 (fun j hj => ⟨(h4 j hj).1, by have := (h4 j hj).2; omega⟩)
      have hbx : ∀ {j : Nat} {t : TypeId} {u : Value}, w.heap.size < j → j < w.heap.size + 1 + 1 + 1 + 1 → Boxed V j t u → Boxed w2 j t u := fun {j} {t} {u} ha hb hbb => by
        have hl := hbb.lt
        refine (hg2.block j (Nat.lt_of_lt_of_le hl hVa.size) (fun e => ?_)).trans ((hVa.block j hl).trans hbb)
        have := (h4 j e.symm).2
        omega
      have b3 := hbx (by omega) (by omega) h2
      have b4 := hbx (by omega) (by omega) st.b4
      have b5 := hbx (by omega) (by omega) st.bs
      have hv2 : ∀ j, v2.ownBlock = some j → (E j ∨ (V.heap.size ≤ j ∧ j < w2.heap.size)) ∧ (j = w.heap.size ∨ w.heap.size + 1 + 1 + 1 + 1 ≤ j) := fun j hj => by
        have hl := hown2.lt j hj
        rcases hat2 with h | h
        · rw [h] at hj
          exact ⟨.inl (h4 j hj).1, (h4 j hj).2⟩
        · rw [h] at hj
          have : V.heap.size + 1 = j := by simpa using hj
          exact ⟨.inr ⟨by omega, hl.2⟩, .inr (by omega)⟩
      obtain ⟨a2, c2, rfl⟩ := shape_of hown2
      have d3 := b3.cell
      have g3 := b3.frozen
      have b33 := b3.set (.slice a2 (k + 1) c2)
      have b43 := b4.other (show w.heap.size + 1 + 1 ≠ w.heap.size + 1 by omega) (.slice a2 (k + 1) c2)
      have b53 := b5.other (show w.heap.size + 1 + 1 + 1 ≠ w.heap.size + 1 by omega) (.slice a2 (k + 1) c2)
      have hown3 : (w2.setCell ⟨w.heap.size + 1, 0, none⟩ (.slice a2 (k + 1) c2)).ownsRow w.heap.size 3 1 (.slice a2 (k + 1) c2) (k + 1) (ints (stp f) (k + 1)) := hown2.kept (grownBy_setCell' w2 (w.heap.size + 1) _) (by
        cases hv : (Value.slice a2 (k + 1) c2).ownBlock with
        | none => exact .inl rfl
        | some j => exact .inr (fun e => by have h5 := (hv2 j hv).2; have h6 : j = w.heap.size + 1 := Option.some.inj e; omega))
      have htu3 := htu.setCell (p := ⟨w.heap.size + 1, 0, none⟩) (by first | (simp; done) | (simp; omega)) (.inl (st.low _ (by first | (simp; done) | (simp; omega)))) (.slice a2 (k + 1) c2)
      have hsz3 : w2.heap.size = (w2.setCell ⟨w.heap.size + 1, 0, none⟩ (.slice a2 (k + 1) c2)).heap.size := by simp
      have hm3 : More w (w2.setCell ⟨w.heap.size + 1, 0, none⟩ (.slice a2 (k + 1) c2)) := Below.trans st.more (htu3.below st.sz)
      have d4 := b43.cell
      have g4 := b43.frozen
      have HO := Hid.mk (show Turn w.heap.size E (fun k => E k ∨ (V.heap.size ≤ k ∧ k < w2.heap.size)) V ((w2.setCell ⟨w.heap.size + 1, 0, none⟩ (.slice a2 (k + 1) c2)).setCell ⟨w.heap.size + 1 + 1, 0, none⟩ (.int .i64 X)) ∧ StI w w.heap.size s f (k + 1 + 1) (fun k => E k ∨ (V.heap.size ≤ k ∧ k < w2.heap.size)) ((w2.setCell ⟨w.heap.size + 1, 0, none⟩ (.slice a2 (k + 1) c2)).setCell ⟨w.heap.size + 1 + 1, 0, none⟩ (.int .i64 X)) from
        ⟨htu3.setCell (p := ⟨w.heap.size + 1 + 1, 0, none⟩) (by simp; omega) (.inl (st.low _ (by first | (simp; done) | (simp; omega)))) _, ⟨_, b33.other (by omega) _, hown3.kept (grownBy_setCell' _ (w.heap.size + 1 + 1) _) (by
          cases hv : (Value.slice a2 (k + 1) c2).ownBlock with
          | none => exact .inl rfl
          | some j => exact .inr (fun e => by have h5 := (hv2 j hv).2; have h6 : j = w.heap.size + 1 + 1 := Option.some.inj e; omega)), hv2⟩,
          by have := b43.set (.int .i64 X); rw [if_neg (by omega), show k + 1 + 1 - 1 = k + 1 from rfl, hXe]; exact this, b53.other (by omega) _, hm3.setCell (p := ⟨w.heap.size + 1 + 1, 0, none⟩) (by simp; omega) _, fun j hj => .inl (st.low j hj), Nat.le_trans hm3.size (KeepsOthers.setCell _ _ _).size⟩)
      clear st h2 h3 h4 hown2 hg2 hat2 htu hbx b3 b4 b5 hv2 b33 b43 b53 hown3 htu3 hm3 hVa hsz3 HS
      gi_wp2
      refine ⟨_, HO.out.1, ?_⟩
      dsimp only
      rw [HL.out]
      exact HO.out.2
  case done =>
    rintro D ys E V hD hED rfl st hwE _ hKD
    rw [allZ_len] at st
    obtain ⟨v, h2, h3, h4⟩ := st.row
    have c3 := h2.cell
    have HS := Hid.mk (And.intro st (And.intro h3 h4))
    clear st h2 h3 h4
    gi_wp2
    refine leaves_set (C := E) (B := w1.heap.size) (.cons (by omega) hKD (fun _ h => by cases h) .nil) (one_mark hED) fun w' hw' _ => ?_
    refine ⟨v, by simp [results, Tryz.f28, go_sem], v, rfl, own_stay HS.out.2.1 (fun j hj => (HS.out.2.2 j hj).1) hw', (HS.out.1.stay hw' (Nat.le_refl _)).more⟩
  case stop =>
    rintro D cc pre E V hD hED _ h _ _ _
    exact h.elim

end Go.Proofs.YtbjgbigalfhnjaaGreatDoor
