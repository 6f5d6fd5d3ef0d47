/-
  vocab: Learn.
-/
import Derived.Test.YtbpegpgbdemomaaVoMathB
import Derived.Test.YtbpegpgbdemomaaAnyDetR
import Derived.Test.YtbpegpgbdemomaaTokL
namespace Go.Proofs.Ytbpegpgbdemomaa
open Go.RowKit Go.Shelf
attribute [local go_sem] Oper.semAt_some vo_field

/-- What Learn tells. -/
def LearnOr (w w' : World) (ts : List (List UInt8)) (most : Int) (p : Option Addr) (c : Int) : Prop :=
  ((ts.length : Int) ≤ most ∧ c = 0 ∧ ∃ v D, p = some ⟨v, 0, none⟩ ∧ Voc w' D v ts ∧ (∀ j, D j → w.heap.size ≤ j) ∧ w.heap.size ≤ v) ∨ (most < (ts.length : Int) ∧ c = 12 ∧ p = none)

/-- Between two rounds of Learn. -/
structure LrI (w : World) (most : Int) (l : List UInt8) (v b B3 Bs : Nat) (ts : List (List UInt8)) (D E : Nat → Prop) (V : World) : Prop where
  m0 : Boxed V w.heap.size 3 (.int .i64 most)
  m1 : Boxed V (w.heap.size + 1) 24 (.pointer none)
  m2 : Boxed V (w.heap.size + 1 + 1) 25 (.int .i64 0)
  m3 : Boxed V B3 24 (.pointer (some ⟨v, 0, none⟩))
  tx : Boxed V Bs 9 (.string (bs l))
  vb : V.heap[v]? = some (.cells #[.pointer (some ⟨b, 0, none⟩)] 57 (0, 0))
  tab : Tab V D b ts
  dE : ∀ j, D j → E j ∧ w.heap.size + 1 + 1 + 1 ≤ j
  nv : ¬ D v
  n3 : ¬ D B3
  ns : ¬ D Bs
  more : More w V
  low : ∀ j, j < Bs + 1 → E j
  sz : Bs + 1 ≤ V.heap.size
theorem LrI.stay {w : World} {most : Int} {l : List UInt8} {v b B3 Bs : Nat} {ts : List (List UInt8)} {D E : Nat → Prop} {V V' : World} (h : LrI w most l v b B3 Bs ts D E V) (k : Stay E V V') (hv : v < Bs) (h3 : B3 < Bs) (h0 : w.heap.size + 1 + 1 < Bs) : LrI w most l v b B3 Bs ts D E V' :=
  ⟨k.boxed h.m0 (h.low _ (by omega)), k.boxed h.m1 (h.low _ (by omega)), k.boxed h.m2 (h.low _ (by omega)), k.boxed h.m3 (h.low _ (by omega)), k.boxed h.tx (h.low _ (by omega)), (k.block v (h.low _ (by omega))).trans h.vb,
   h.tab.stay k fun j hj => (h.dE j hj).1, h.dE, h.nv, h.n3, h.ns, Below.trans h.more (k.below fun j hj => h.low j (by omega)), h.low, Nat.le_trans h.sz k.size⟩
theorem LrI.later {w : World} {most : Int} {l : List UInt8} {v b B3 Bs : Nat} {ts : List (List UInt8)} {D E : Nat → Prop} {V V' : World} (h : LrI w most l v b B3 Bs ts D E V) (k : More V V') : LrI w most l v b B3 Bs ts D (fun j => E j ∨ (V.heap.size ≤ j ∧ j < V'.heap.size)) V' :=
  ⟨boxed_more h.m0 k, boxed_more h.m1 k, boxed_more h.m2 k, boxed_more h.m3 k, boxed_more h.tx k, k.at h.vb, h.tab.more k, fun j hj => ⟨.inl (h.dE j hj).1, (h.dE j hj).2⟩, h.nv, h.n3, h.ns, More.trans h.more k, fun j hj => .inl (h.low j hj), Nat.le_trans h.sz k.size⟩
/-- A word has come. -/
theorem LrI.put {w : World} {most : Int} {l : List UInt8} {v b B3 Bs : Nat} {ts ts' : List (List UInt8)} {D D' E : Nat → Prop} {V V' : World} (h : LrI w most l v b B3 Bs ts D E V) (hT : Tab V' D' b ts') (hO : Off D V V') (hD : ∀ j, D' j → D j ∨ V.heap.size ≤ j) (hv : v < Bs) (h3 : B3 < Bs) (h0 : w.heap.size + 1 + 1 < Bs) : LrI w most l v b B3 Bs ts' D' (fun j => E j ∨ (V.heap.size ≤ j ∧ j < V'.heap.size)) V' := by
  have hsz := h.sz
  have hno : ∀ j, j < w.heap.size + 1 + 1 + 1 → ¬ D j := fun j hj hd => by have := (h.dE j hd).2; omega
  have hn : ∀ j, j < V.heap.size → ¬ D j → ¬ D' j := fun j hj hd hd' => (hD j hd').elim hd fun h => by omega
  refine ⟨(hO.block _ (by omega) (hno _ (by omega))).trans h.m0, (hO.block _ (by omega) (hno _ (by omega))).trans h.m1, (hO.block _ (by omega) (hno _ (by omega))).trans h.m2, (hO.block _ (by omega) h.n3).trans h.m3, (hO.block _ (by omega) h.ns).trans h.tx, (hO.block _ (by omega) h.nv).trans h.vb, hT, fun j hj => ?_, hn _ (by omega) h.nv, hn _ (by omega) h.n3, hn _ (by omega) h.ns, More.trans' h.more hO (fun j hj => by have := (h.dE j hj).2; omega), fun j hj => .inl (h.low j hj), Nat.le_trans hsz hO.size⟩
  have hw := hT.wi j hj
  rcases hD j hj with h1 | h1
  · exact ⟨.inl (h.dE j h1).1, (h.dE j h1).2⟩
  · exact ⟨.inr ⟨h1, hw⟩, by omega⟩
theorem Off.turn {lo : Nat} {D E : Nat → Prop} {V V' : World} (hO : Off D V V') (hE : ∀ j, D j → E j ∧ lo ≤ j) : Turn lo E (fun j => E j ∨ (V.heap.size ≤ j ∧ j < V'.heap.size)) V V' :=
  ⟨hO.os, hO.tape, hO.output, hO.size, fun k hk hd => hO.block k hk fun hh => hd.elim (fun h => by have := (hE k hh).2; omega) fun h => h (hE k hh).1, fun _ => Iff.rfl⟩

theorem Turn.low {lo : Nat} {C C' : Nat → Prop} {a b : World} (h : Turn lo C C' a b) : Turn 0 C C' a b := ⟨h.os, h.tape, h.output, h.size, fun k hk hd => h.block k hk (hd.imp (fun hh => absurd hh (Nat.not_lt_zero k)) id), h.more⟩

set_option maxRecDepth 1000000 in
set_option maxHeartbeats 4000000 in
theorem vo_learn_in (n : Nat) (hn : 32 ≤ n) (l : List UInt8) (hl : l.length ≤ 60000) (most : Int) (w : World) :
    CallsIn Fence.wide n Try.prog 19 #[.string (bs l), .int .i64 most] w fun e w' => ∃ p c, e = .returned (.tuple #[.pointer p, .int .i64 c]) ∧ More w w' ∧ LearnOr w w' (lrn l) most p c := by
  have h1 : 1 ≤ n := by omega
  have hlen := lrn_len l
  obtain ⟨wa, hwa⟩ : ∃ wa, ((w.alloc (.cells #[.int .i64 most] 3)).alloc (.cells #[.pointer none] 24)).alloc (.cells #[.int .i64 0] 25) = wa := ⟨_, rfl⟩
  have hma : More w wa := by rw [← hwa]; exact (((Below.refl _ w).alloc (Nat.le_refl _) _).alloc (by simp) _).alloc (by simp; omega) _
  have hsa : wa.heap.size = w.heap.size + 1 + 1 + 1 := by rw [← hwa]; simp
  have a0 : Boxed wa w.heap.size 3 (.int .i64 most) := by rw [← hwa]; exact ((Boxed.new w _ _).alloc _).alloc _
  have a1 : Boxed wa (w.heap.size + 1) 24 (.pointer none) := by
    have := Boxed.new (w.alloc (.cells #[.int .i64 most] 3)) 24 (.pointer none)
    rw [World.size_alloc] at this
    rw [← hwa]; exact this.alloc _
  have a2 : Boxed wa (w.heap.size + 1 + 1) 25 (.int .i64 0) := by
    have := Boxed.new ((w.alloc (.cells #[.int .i64 most] 3)).alloc (.cells #[.pointer none] 24)) 25 (.int .i64 0)
    rw [World.size_alloc, World.size_alloc] at this
    rw [← hwa]; exact this
  have HA := Hid.mk (And.intro hma (And.intro hsa (And.intro a0 (And.intro a1 a2))))
  clear hma hsa a0 a1 a2
  refine callsIn_of_wp_marks Try.func19 rfl trivial ?_ rfl
  simp only [Try.ntmps19, List.size_toArray, List.length_cons, List.length_nil, Nat.reduceAdd, Nat.reduceSub, Array.replicate_succ, Array.replicate_zero, List.push_toArray, List.append_toArray, List.nil_append, List.cons_append]
  gi_wp2_with (refine ⟨trivial, ?_⟩; gi_at_call 21; refine (callsIn_wide.2 (vo_New _)).mono ?_; rintro e w1 ⟨v, D0, rfl, hV, hM, hD, hv⟩; have H1 := Hid.mk (And.intro hV (And.intro hM (And.intro hD hv))); clear hV hM hD hv)
  obtain ⟨w2, hw2⟩ : ∃ w2, w1.alloc (.cells #[.pointer (some ⟨v, 0, none⟩)] 24) = w2 := ⟨_, rfl⟩
  obtain ⟨B3, hB3⟩ : ∃ B3, w1.heap.size = B3 := ⟨_, rfl⟩
  have hm2 : More w1 w2 := by rw [← hw2]; exact more_alloc _ _
  have b3 : Boxed w2 B3 24 (.pointer (some ⟨v, 0, none⟩)) := by rw [← hw2, ← hB3]; exact Boxed.new _ _ _
  have hs2 : w2.heap.size = B3 + 1 := by rw [← hw2]; simp [hB3]
  have hva2 : More wa w2 := More.trans H1.out.2.1 hm2
  obtain ⟨hnv, b, hvb, hT1⟩ := H1.out.1
  have hvlt : v < B3 := by rw [← hB3]; exact lt_of_block hvb
  have hD1 : ∀ j, D0 j → w.heap.size + 1 + 1 + 1 ≤ j ∧ j < B3 := fun j hj => ⟨by have := H1.out.2.2.1 j hj; rw [HA.out.2.1] at this; exact this, by rw [← hB3]; exact hT1.wi j hj⟩
  have hva : w.heap.size + 1 + 1 + 1 ≤ v := by have := H1.out.2.2.2; rw [HA.out.2.1] at this; exact this
  have c0 : ∀ (W : World), More w2 W → W.cell? ⟨w.heap.size, 0, none⟩ = some (.int .i64 most) := fun W hW => (boxed_more HA.out.2.2.1 (More.trans hva2 hW)).cell
  have c3 : ∀ (W : World), More w2 W → W.cell? ⟨B3, 0, none⟩ = some (.pointer (some ⟨v, 0, none⟩)) := fun W hW => (boxed_more b3 hW).cell
  have hln : ∀ (W : World), More w2 W → Calls Try.prog 14 #[.pointer (some ⟨v, 0, none⟩)] W fun e w' => e = .returned (.int .i64 3) ∧ More W w' := fun W hW => (vo_Len v W D0 mk3 (H1.out.1.more (More.trans hm2 hW)))
  rw [hw2, hB3]
  have H2 := Hid.mk (And.intro hm2 (And.intro b3 (And.intro hs2 (And.intro hva2 (And.intro hnv (And.intro hvb (And.intro hT1 (And.intro hD1 hva))))))))
  clear hwa hw2 hm2 b3 hs2 hva2 hnv hvb hT1 hD1 hva hB3
  refine region_detN 3 14 1 [.int .i64 most, .pointer (some ⟨v, 0, none⟩), .int .i64 3]
    { tmps := #[.string (bs l), .int .i64 most, undef, .pointer (some ⟨w.heap.size, 0, none⟩), .pointer (some ⟨w.heap.size + 1, 0, none⟩), .pointer (some ⟨w.heap.size + 1 + 1, 0, none⟩), .pointer (some ⟨B3, 0, none⟩), undef, undef, undef, undef, undef, undef, .pointer (some ⟨v, 0, none⟩), .int .i64 most, .pointer (some ⟨v, 0, none⟩), .int .i64 3, undef, undef, undef, undef, undef, undef, undef, undef, undef, undef, undef, undef, undef, undef, undef, undef, undef, undef, undef, undef, undef, undef, undef, undef, undef, undef, undef], defers := [] }
    (fun w' => More w2 w') (by kernel_rfl) (detN_of (by kernel_rfl)) (by kernel_rfl) (Nat.le_of_ble_eq_true (by kernel_rfl)) (More.drewN w2 1) ?step ?fin
  case step =>
    rintro e he w' hw
    have c0 := c0 w' hw
    have c3 := c3 w' hw
    have hln := hln w' hw
    have HW := Hid.mk hw
    clear hw
    rcases (show e = 0 ∨ e = 1 ∨ e = 2 by omega) with rfl | rfl | rfl
    all_goals
      refine wpOpIn_step rfl (fun K hK => ?_)
      go_simp
    · exact hK _ _ ⟨rfl, rfl, HW.out⟩
    · exact hK _ _ ⟨rfl, rfl, HW.out⟩
    · refine ⟨trivial, (callsIn_wide.2 hln).mono ?_⟩
      rintro e w'' ⟨rfl, hm⟩
      exact hK _ _ ⟨rfl, rfl, More.trans HW.out hm⟩
  case fin =>
    rintro w3 hw3
    have a1 := boxed_more HA.out.2.2.2.1 (More.trans H2.out.2.2.2.1 hw3)
    have a2 := boxed_more HA.out.2.2.2.2 (More.trans H2.out.2.2.2.1 hw3)
    have H3 := Hid.mk hw3
    clear hw3 c0 c3 hln
    by_cases hm3 : most < 3
    · have c1 := a1.cell
      have f1 := a1.frozen
      have a2s := a2.other (show w.heap.size + 1 + 1 ≠ w.heap.size + 1 by omega) (.pointer none)
      have c2 := a2s.cell
      have f2 := a2s.frozen
      have a1s := (a1.set (.pointer none)).other (show w.heap.size + 1 ≠ w.heap.size + 1 + 1 by omega) (.int .i64 12)
      have a2t := a2s.set (.int .i64 12)
      have HB := Hid.mk (And.intro a1s a2t)
      have hM3 := More.trans HA.out.1 (More.trans H2.out.2.2.2.1 H3.out)
      have HM := Hid.mk (show More w ((w3.setCell ⟨w.heap.size + 1, 0, none⟩ (.pointer none)).setCell ⟨w.heap.size + 1 + 1, 0, none⟩ (.int .i64 12)) from (hM3.setCell (p := ⟨w.heap.size + 1, 0, none⟩) (by simp) _).setCell (p := ⟨w.heap.size + 1 + 1, 0, none⟩) (by simp; omega) _)
      clear a1 a2 a2s a1s a2t hM3
      refine wpOpIn_step rfl (fun K hK => ?_)
      go_simp
      refine hK _ _ ?_
      clear hK
      unfold tailIn
      gi_wp2
      have r1 := HB.out.1.cell
      have r2 := HB.out.2.cell
      refine ⟨.tuple #[.pointer none, .int .i64 12], by simp [results, Try.f19, go_sem, r1, r2], none, 12, rfl, HM.out, .inr ⟨by omega, rfl, rfl⟩⟩
    · have a0 := boxed_more HA.out.2.2.1 (More.trans H2.out.2.2.2.1 H3.out)
      have hM3 := More.trans HA.out.1 (More.trans H2.out.2.2.2.1 H3.out)
      have b3 := boxed_more H2.out.2.1 H3.out
      have vb := (More.trans H2.out.1 H3.out).at H2.out.2.2.2.2.2.1
      have hT3 := H2.out.2.2.2.2.2.2.1.more (More.trans H2.out.1 H3.out)
      have hD1 := H2.out.2.2.2.2.2.2.2.1
      have hnv := H2.out.2.2.2.2.1
      have hva := H2.out.2.2.2.2.2.2.2.2
      have hB3s : B3 < w3.heap.size := by have := H3.out.size; have := H2.out.2.2.1; omega
      obtain ⟨Bs, hBs⟩ : ∃ Bs, w3.heap.size = Bs := ⟨_, rfl⟩
      rw [hBs] at hB3s
      have HQ := Hid.mk (And.intro a0 (And.intro a1 (And.intro a2 (And.intro hM3 (And.intro b3 (And.intro vb (And.intro hT3 (And.intro hD1 (And.intro hnv (And.intro hva hBs))))))))))
      clear a0 a1 a2 hM3 b3 vb hT3 hD1 hnv hva H1 H2 H3 HA
      refine wpOpIn_step rfl (fun K hK => ?_)
      go_simp
      refine hK _ _ ?_
      clear hK
      unfold tailIn
      gi_wp2_with (refine ⟨trivial, ?_⟩; gi_at_call 41; refine (lines_call _ _ _).mono ?_; rintro e w' ⟨rfl, hw'⟩; subst w')
      obtain ⟨a0, a1, a2, hM3, b3, vb, hT3, hD1, hnv, hva, hBs⟩ := HQ.out
      obtain ⟨w4, hw4⟩ : ∃ w4, w3.alloc (.cells #[.string (bs l)] 9) = w4 := ⟨_, rfl⟩
      have hm4 : More w3 w4 := by rw [← hw4]; exact more_alloc _ _
      have hs4 : w4.heap.size = Bs + 1 := by rw [← hw4]; simp [hBs]
      have tx : Boxed w4 Bs 9 (.string (bs l)) := by rw [← hw4, ← hBs]; exact Boxed.new _ _ _
      have hA4 := More.trans hM3 hm4
      have hws : w.heap.size + 1 + 1 < Bs := by omega
      have hvs : v < Bs := by omega
      have st4 : LrI w most l v b B3 Bs mk3 D0 (fun k => k < w4.heap.size) w4 :=
        ⟨boxed_more a0 hm4, boxed_more a1 hm4, boxed_more a2 hm4, boxed_more b3 hm4, tx, hm4.at vb, hT3.more hm4, fun j hj => ⟨by have := (hD1 j hj).2; omega, (hD1 j hj).1⟩, hnv, fun h => by have := (hD1 _ h).2; omega, fun h => by have := (hD1 _ h).2; omega, hA4, fun j hj => by rw [hs4]; exact hj, by rw [hs4]; exact Nat.le_refl _⟩
      have hseq := lines_in (n - 1) (by omega) Bs w.heap.size l (by omega) w
      have hxl : ∀ y ∈ lns [] l, y.length ≤ 1000000 := fun y hy => by have := lns_size l [] y hy; simp at this; omega
      have HL := Hid.mk (And.intro (show lrn l = putAll mk3 (lw (lns [] l)) from rfl) hlen)
      obtain ⟨L, hL⟩ : ∃ L, lns [] l = L := ⟨_, rfl⟩
      rw [hL] at hseq hxl HL
      rw [hw4]
      clear hL hw4 hBs a0 a1 a2 hM3 b3 vb hT3 hD1 hnv tx hm4 HQ hlen
      refine range_set rfl h1 (gf := 56) (lb := #[.pointer (some ⟨Bs, 0, none⟩)]) rfl trivial (enters_of Try.func56 (by kernel_rfl) rfl)
        hseq (by omega) hA4 (fun _ => rfl)
        (fun pre E V => ∃ D, LrI w most l v b B3 Bs (putAll mk3 (lw (pre.map Prod.snd))) D E V ∧ ((putAll mk3 (lw (pre.map Prod.snd))).length : Int) ≤ most)
        (fun c pre E V => c = .ret ∧ Boxed V (w.heap.size + 1) 24 (.pointer none) ∧ Boxed V (w.heap.size + 1 + 1) 25 (.int .i64 12) ∧ More w V ∧ (∀ j, j < Bs + 1 → E j) ∧ most < ((lrn l).length : Int))
        (fun s E A A' h k => ⟨h.choose, h.choose_spec.1.stay k hvs hB3s hws, h.choose_spec.2⟩)
        (fun c s E A A' h k => ⟨h.1, k.boxed h.2.1 (h.2.2.2.2.1 _ (by omega)), k.boxed h.2.2.1 (h.2.2.2.2.1 _ (by omega)), Below.trans h.2.2.2.1 (k.below fun j hj => h.2.2.2.2.1 j (by omega)), h.2.2.2.2.1, h.2.2.2.2.2⟩)
        (fun _ _ _ h => h.choose_spec.1.tx) ⟨D0, st4, by show ((mk3.length : Nat) : Int) ≤ most; simp [mk3]; omega⟩
        (fun x => { tmps := #[.string (bs l), .int .i64 most, undef, .pointer (some ⟨w.heap.size, 0, none⟩), .pointer (some ⟨w.heap.size + 1, 0, none⟩), .pointer (some ⟨w.heap.size + 1 + 1, 0, none⟩), .pointer (some ⟨B3, 0, none⟩), undef, .string (bs x.2), undef, undef, undef, undef, .pointer (some ⟨v, 0, none⟩), .int .i64 most, .pointer (some ⟨v, 0, none⟩), .int .i64 3, .bool false, .string (bs l), .func (.func 56) #[] #[.pointer (some ⟨Bs, 0, none⟩)], .int .i64 x.1, .string (bs x.2), undef, undef, undef, undef, undef, undef, undef, undef, undef, undef, undef, undef, undef, undef, undef, undef, undef, undef, undef, undef, undef, undef], defers := [] }) ?assign ?body ?done ?stop
      case assign =>
        intro l2 x V K' hK'
        gi_wp2
        exact hK'
      case body =>
        rintro l2 pre x V E ⟨c, hc, hSp⟩ ⟨D, st, hle⟩ hwE hlw hszV hlenN
        have hd : 1 ≤ n - 1 - 1 := by omega
        obtain ⟨_, hx0, hc0⟩ := numL_next hSp
        have hxm : x.2.length ≤ 1000000 := by rw [hx0]; exact hxl _ (getD_mem (by omega))
        have hge := fun r => cur_ge hc hSp r
        have hov := fun r (hr : r < (wordsOf x.2).length) hn => cur_over hc hSp hr hn
        have hnx := fun r (hr : r < (wordsOf x.2).length) => cur_next pre x.2 hr
        have hfl := cur_full pre x
        have hwl := words_ok x.2
        rw [← cur_zero pre x.2] at st hle
        rw [← HL.out.1] at hge hov
        have HC := Hid.mk (And.intro hge (And.intro hov (And.intro hnx (And.intro hfl hwl))))
        obtain ⟨X, hX⟩ : ∃ X, x.2 = X := ⟨_, rfl⟩
        rw [hX] at hxm HC st hle ⊢
        have HS := Hid.mk (And.intro st (And.intro hle hwE))
        clear hx0 hc0 hge hov hnx hfl hwl st hle hseq hSp hX hA4 st4 hxl
        gi_wp2_with (refine ⟨trivial, ?_⟩; gi_at_call 42; refine (CallsIn.inRound l2 (tk_words _ (by omega) X hxm _)).mono ?_; rintro e w5 ⟨u, rfl, hG⟩; have H5 := Hid.mk hG; obtain ⟨au, cu, rfl⟩ := hG.shape; clear hG)
        obtain ⟨kw, hkw⟩ : ∃ kw, (wordsOf X).length = kw := ⟨_, rfl⟩
        have hkb : kw ≤ 1000000 := by
          have h1 := wds_len (pcs [] X)
          have h2 := pcs_len X []
          simp at h2
          rw [← hkw]; unfold wordsOf; omega
        rw [hkw] at H5 HC ⊢
        have hu0 : (∀ j, (Value.slice au kw cu).ownBlock = some j → ¬ D j) := fun j hj hd => by
          have h1 := (H5.out.row.lt j (by rw [← hj])).1
          have h2 := HS.out.1.tab.wi j hd
          omega
        have hsr : SRd w5 (.slice au kw cu) (wordsOf X) := H5.out.rd
        have st5 := HS.out.1.later H5.out.more
        have H6 := Hid.mk (And.intro hu0 (And.intro hsr (And.intro st5 (Turn.of_more (lo := w.heap.size) (C := E) H5.out.more))))
        clear hu0 hsr st5 H5
        gi_loopw [25] (fun k wr => ∃ (r : Nat) (D' C : Nat → Prop), r ≤ kw ∧ k = .int .i64 r ∧ LrI w most l v b B3 Bs (cur pre X r) D' C wr ∧ Turn w.heap.size E C V wr ∧ ((cur pre X r).length : Int) ≤ most ∧ SRd wr (.slice au kw cu) (wordsOf X) ∧ ∀ j, (Value.slice au kw cu).ownBlock = some j → ¬ D' j) (fun k _ => kw - (intOf k).toNat)
        case atStart => exact ⟨0, D, _, by omega, rfl, H6.out.2.2.1, H6.out.2.2.2, HS.out.2.1, H6.out.2.1, H6.out.1⟩
        case round =>
          obtain ⟨r, D', C, hr, rfl, hI, hTu, hle, hSr, hnD⟩ := hrel
          clear H6 HS
          by_cases hlt : r < kw
          · obtain ⟨g, rfl, hcw⟩ : ∃ g, au = some ⟨g, 0, none⟩ ∧ ∀ k, k < kw → wr.cell? ⟨g, k, none⟩ = some (.string (bs ((wordsOf X).getD k []))) := by
              rcases hSr.form with ⟨h, _⟩ | ⟨g, cap, h1, _, h2⟩
              · rw [h] at hkw; simp at hkw; omega
              · rw [hkw] at h2
                exact ⟨g, (Value.slice.inj h1).1, h2⟩
            have cw := hcw r hlt
            have hyl : ((wordsOf X).getD r []).length ≤ 255 := HC.out.2.2.2.2 _ (getD_mem (by omega))
            obtain ⟨y, hy⟩ : ∃ y, (wordsOf X).getD r [] = y := ⟨_, rfl⟩
            have hov := HC.out.2.1 r hlt
            have hnx := HC.out.2.2.1 r hlt
            rw [hy] at cw hyl hov hnx
            have c0 : ∀ (W : World), More wr W → W.cell? ⟨w.heap.size, 0, none⟩ = some (.int .i64 most) := fun W hW => (boxed_more hI.m0 hW).cell
            have c3 : ∀ (W : World), More wr W → W.cell? ⟨B3, 0, none⟩ = some (.pointer (some ⟨v, 0, none⟩)) := fun W hW => (boxed_more hI.m3 hW).cell
            have cv : ∀ (W : World), More wr W → W.cell? ⟨v, 0, none⟩ = some (.pointer (some ⟨b, 0, none⟩)) := fun W hW => (wcells1 (hW.at hI.vb)).1
            have hcl : (cur pre X r).length ≤ 100000 := by have := HC.out.1 r; have := HL.out.2.2; omega
            have hta := fun (W : World) (hW : More wr W) => vo_take_any W D' b (cur pre X r) y (min most 65536) (hI.tab.more hW) hcl (by omega)
            have HR := Hid.mk (And.intro hI (And.intro hTu (And.intro hle (And.intro hSr (And.intro hnD (And.intro hov hnx))))))
            have HN := Hid.mk (And.intro hlt hr)
            clear hI hTu hle hSr hnD hov hnx hcw hy
            gi_wp2
            refine region_detR 7 30 6 [.pointer (some ⟨v, 0, none⟩), .pointer (some ⟨v, 0, none⟩), .pointer (some ⟨v, 0, none⟩), .agg #[.pointer (some ⟨b, 0, none⟩)], .string (bs y), .int .i64 most, .int .i64 (min most 65536)]
              { tmps := #[.string (bs l), .int .i64 most, undef, .pointer (some ⟨w.heap.size, 0, none⟩), .pointer (some ⟨w.heap.size + 1, 0, none⟩), .pointer (some ⟨w.heap.size + 1 + 1, 0, none⟩), .pointer (some ⟨B3, 0, none⟩), undef, .string (bs X), undef, .string (bs y), u11, u12, .pointer (some ⟨v, 0, none⟩), .int .i64 most, .pointer (some ⟨v, 0, none⟩), .int .i64 3, .bool false, .string (bs l), .func (.func 56) #[] #[.pointer (some ⟨Bs, 0, none⟩)], .int .i64 x.1, .string (bs X), .string (bs X), .slice (some ⟨g, 0, none⟩) kw cu, .int .i64 kw, .int .i64 r, .bool true, .pointer (some ⟨g, r, none⟩), .string (bs y), u29, .pointer (some ⟨v, 0, none⟩), .pointer (some ⟨v, 0, none⟩), .pointer (some ⟨v, 0, none⟩), .agg #[.pointer (some ⟨b, 0, none⟩)], .string (bs y), .int .i64 most, .int .i64 (min most 65536), u37, u38, u39, u40, u41, u42, undef], defers := [] }
              (fun w' => More wr w') (by kernel_rfl) (detR_of (by kernel_rfl)) (by kernel_rfl) (Nat.le_of_ble_eq_true (by kernel_rfl)) (More.drewN wr 1) ?step ?fin
            case step =>
              rintro e he w' hw
              have c0 := c0 w' hw
              have c3 := c3 w' hw
              have cv := cv w' hw
              have HW := Hid.mk hw
              clear hw
              rcases (show e = 0 ∨ e = 1 ∨ e = 2 ∨ e = 3 ∨ e = 4 ∨ e = 5 ∨ e = 6 by omega) with rfl | rfl | rfl | rfl | rfl | rfl | rfl
              all_goals
                refine wpOpIn_step rfl (fun K hK => ?_)
                go_simp
                exact hK _ _ ⟨rfl, rfl, HW.out⟩
            case fin =>
              rintro w6 hw6
              have hta := hta w6 hw6
              have H6 := Hid.mk hw6
              clear hw6 c0 c3 cv
              refine any_one 7 (by kernel_rfl) ?_
              refine wpOpIn_step rfl (fun K hK => ?_)
              go_simp
              refine ⟨trivial, (CallsIn.inRound l2 (callsIn_wide.2 hta)).mono ?_⟩
              rintro e w7 ⟨F, E0, rfl, D2, hO7, hD7, hor⟩
              refine hK _ _ ?_
              have H7 := Hid.mk (And.intro hO7 (And.intro hD7 hor))
              clear hK hta hO7 hD7 hor
              refine any_one 8 (by kernel_rfl) ?_
              refine wpOpIn_step rfl (fun K hK => ?_)
              go_simp
              refine hK _ _ ?_
              clear hK
              refine any_two 9 10 (by kernel_rfl) ?oA ?oB
              case' oA =>
                refine wpOpIn_step rfl (fun K hK => ?_)
                go_simp
                refine hK _ _ ?_
                clear hK
                refine any_two 10 11 (by kernel_rfl) ?oC ?oD
              case' oC =>
                refine wpOpIn_step rfl (fun K hK => ?_)
                go_simp
                refine hK _ _ ?_
                clear hK
                refine any_one 11 (by kernel_rfl) ?_
                refine wpOpIn_step rfl (fun K hK => ?_)
                go_simp
                refine hK _ _ ?_
                clear hK
                refine any_one 12 (by kernel_rfl) ?_
                refine wpOpIn_step rfl (fun K hK => ?_)
                go_simp
                refine hK _ _ ?_
                clear hK
                refine any_end (by kernel_rfl) ?_
              case' oD =>
                refine wpOpIn_step rfl (fun K hK => ?_)
                go_simp
                refine hK _ _ ?_
                clear hK
                refine any_one 10 (by kernel_rfl) ?_
                refine wpOpIn_step rfl (fun K hK => ?_)
                go_simp
                refine hK _ _ ?_
                clear hK
                refine any_one 12 (by kernel_rfl) ?_
                refine wpOpIn_step rfl (fun K hK => ?_)
                go_simp
                refine hK _ _ ?_
                clear hK
                refine any_end (by kernel_rfl) ?_
              case' oB =>
                refine wpOpIn_step rfl (fun K hK => ?_)
                go_simp
                refine hK _ _ ?_
                clear hK
                refine any_one 9 (by kernel_rfl) ?_
                refine wpOpIn_step rfl (fun K hK => ?_)
                go_simp
                refine hK _ _ ?_
                clear hK
                refine any_one 11 (by kernel_rfl) ?_
                refine wpOpIn_step rfl (fun K hK => ?_)
                go_simp
                refine hK _ _ ?_
                clear hK
                refine any_one 12 (by kernel_rfl) ?_
                refine wpOpIn_step rfl (fun K hK => ?_)
                go_simp
                refine hK _ _ ?_
                clear hK
                refine any_end (by kernel_rfl) ?_
              all_goals
                obtain ⟨hO7, hD7, hor⟩ := H7.out
                have hO := Off.more_after H6.out hO7
                have hD : ∀ j, D2 j → D' j ∨ wr.heap.size ≤ j := fun j hj => (hD7 j hj).imp id (Nat.le_trans H6.out.size)
                clear hO7 hD7 H7
                rcases hor with ⟨rfl, hin, hT⟩ | ⟨rfl, hni, hfull, hT⟩
                · rw [← HR.out.2.2.2.2.2.2] at hT
                  have hI7 := HR.out.1.put hT hO hD hvs hB3s hws
                  have hT7 := HR.out.2.1.trans (Off.turn (lo := w.heap.size) hO fun j hj => ⟨(HR.out.1.dE j hj).1, by have := (HR.out.1.dE j hj).2; omega⟩)
                  have hl7 : ((cur pre X (r + 1)).length : Int) ≤ most := by
                    have h0 := HR.out.2.2.1
                    rw [HR.out.2.2.2.2.2.2]
                    rcases hin with h | h
                    · rw [putN_in h]; exact h0
                    · have := (putN_len (cur pre X r) y).1; omega
                  have hs7 : SRd w7 (.slice (some ⟨g, 0, none⟩) kw cu) (wordsOf X) := by
                    obtain ⟨Bq, hq⟩ := HR.out.2.2.2.1
                    exact ⟨Bq, hO.own hq fun j hj => HR.out.2.2.2.2.1 j hj⟩
                  have hn7 : ∀ j, (Value.slice (some ⟨g, 0, none⟩) kw cu).ownBlock = some j → ¬ D2 j := fun j hj hd => by
                    obtain ⟨Bq, hq⟩ := HR.out.2.2.2.1
                    have h1 := (hq.lt j hj).2
                    rcases hD j hd with h | h
                    · exact HR.out.2.2.2.2.1 j hj h
                    · omega
                  have H8 := Hid.mk (And.intro hI7 (And.intro hT7 (And.intro hl7 (And.intro hs7 hn7))))
                  clear hI7 hT7 hl7 hs7 hn7 hO hD hT hin H6
                  gi_wp2
                  go_roundw
                  case rel => exact ⟨r + 1, D2, _, by have := HN.out; omega, by go_num, H8.out.1, H8.out.2.1, H8.out.2.2.1, H8.out.2.2.2.1, H8.out.2.2.2.2⟩
                  case measure => have := HN.out; simp [intOf]; omega
                · have hlt2 : most < ((lrn l).length : Int) := by
                    have h1 := HR.out.2.2.2.2.2.1 hni
                    have h2 := HL.out.2.2
                    omega
                  have hI7 := HR.out.1.put hT hO hD hvs hB3s hws
                  have hT7 := HR.out.2.1.trans (Off.turn (lo := w.heap.size) hO fun j hj => ⟨(HR.out.1.dE j hj).1, by have := (HR.out.1.dE j hj).2; omega⟩)
                  have c1 := hI7.m1.cell
                  have f1 := hI7.m1.frozen
                  have a2s := hI7.m2.other (show w.heap.size + 1 + 1 ≠ w.heap.size + 1 by omega) (.pointer none)
                  have c2 := a2s.cell
                  have f2 := a2s.frozen
                  have a1s := (hI7.m1.set (.pointer none)).other (show w.heap.size + 1 ≠ w.heap.size + 1 + 1 by omega) (.int .i64 12)
                  have a2t := a2s.set (.int .i64 12)
                  have hM7 : More w ((w7.setCell ⟨w.heap.size + 1, 0, none⟩ (.pointer none)).setCell ⟨w.heap.size + 1 + 1, 0, none⟩ (.int .i64 12)) := (hI7.more.setCell (p := ⟨w.heap.size + 1, 0, none⟩) (by simp) _).setCell (p := ⟨w.heap.size + 1 + 1, 0, none⟩) (by simp; omega) _
                  have hT8 := ((hT7.low).setCell (p := ⟨w.heap.size + 1, 0, none⟩) (Nat.zero_le _) (hI7.low (w.heap.size + 1) (by omega)) (.pointer none)).setCell (p := ⟨w.heap.size + 1 + 1, 0, none⟩) (Nat.zero_le _) (hI7.low (w.heap.size + 1 + 1) (by omega)) (.int .i64 12)
                  have H8 := Hid.mk (And.intro hT8 (And.intro a1s (And.intro a2t (And.intro hM7 (And.intro hI7.low hlt2)))))
                  clear hI7 hT7 hO hD hT hni hfull H6 a2s a1s a2t hM7 hT8 hlt2
                  gi_wp2
                  exact ⟨_, H8.out.1, rfl, H8.out.2.1, H8.out.2.2.1, H8.out.2.2.2.1, H8.out.2.2.2.2.1, H8.out.2.2.2.2.2⟩
          · obtain rfl : r = kw := by omega
            rw [HC.out.2.2.2.1] at hI hle
            have H8 := Hid.mk (And.intro hTu (And.intro hI hle))
            clear hTu hI hle hSr hnD
            gi_wp2
            exact ⟨C, H8.out.1, D', H8.out.2.1, H8.out.2.2⟩
      case done =>
        rintro Dm ys E V hDm hED rfl ⟨D, st, hle⟩ hwE _ hKD
        rw [numL_snd] at st hle
        have c3 := st.m3.cell
        have c1 := st.m1.cell
        have f1 := st.m1.frozen
        have m2s := st.m2.other (show w.heap.size + 1 + 1 ≠ w.heap.size + 1 by omega) (.pointer (some ⟨v, 0, none⟩))
        have c2 := m2s.cell
        have f2 := m2s.frozen
        have m1s := (st.m1.set (.pointer (some ⟨v, 0, none⟩))).other (show w.heap.size + 1 ≠ w.heap.size + 1 + 1 by omega) (.int .i64 0)
        have m2t := m2s.set (.int .i64 0)
        obtain ⟨Z, hZ⟩ : ∃ Z, (V.setCell ⟨w.heap.size + 1, 0, none⟩ (.pointer (some ⟨v, 0, none⟩))).setCell ⟨w.heap.size + 1 + 1, 0, none⟩ (.int .i64 0) = Z := ⟨_, rfl⟩
        have hblk : ∀ k, w.heap.size + 1 + 1 + 1 ≤ k → Z.heap[k]? = V.heap[k]? := fun k hk => by
          rw [← hZ, heap_setCell_other _ _ _ _ (show k ≠ w.heap.size + 1 + 1 by omega), heap_setCell_other _ _ _ _ (show k ≠ w.heap.size + 1 by omega)]
        have hst : Stay (fun j => w.heap.size + 1 + 1 + 1 ≤ j) V Z := ⟨by rw [← hZ]; rfl, by rw [← hZ]; rfl, by rw [← hZ]; rfl, by rw [← hZ]; simp, hblk⟩
        have hMZ : More w Z := by rw [← hZ]; exact (st.more.setCell (p := ⟨w.heap.size + 1, 0, none⟩) (by simp) _).setCell (p := ⟨w.heap.size + 1 + 1, 0, none⟩) (by simp; omega) _
        have hTZ := st.tab.stay hst fun j hj => (st.dE j hj).2
        have hvZ := (hblk v hva).trans st.vb
        have hKZ := (hblk Dm (by omega)).trans hKD
        rw [hZ] at m1s m2t
        have HZ := Hid.mk (And.intro m1s (And.intro m2t (And.intro hMZ (And.intro hTZ (And.intro hvZ hKZ)))))
        have HV := Hid.mk (And.intro st (And.intro hle hED))
        have HZZ := Hid.mk hZ
        clear m2s m1s m2t hblk hst hMZ hTZ hvZ hKZ st hle hZ hED
        gi_wp2
        rw [HZZ.out]
        obtain ⟨m1s, m2t, hMZ, hTZ, hvZ, hKZ⟩ := HZ.out
        obtain ⟨st, hle, hED⟩ := HV.out
        refine leaves_set (C := E) (B := w4.heap.size) (.cons (by omega) hKZ (fun _ h => by cases h) .nil) (one_mark hED) fun w' hw' _ => ?_
        have r1 := (hw'.boxed m1s (st.low _ (by omega))).cell
        have r2 := (hw'.boxed m2t (st.low _ (by omega))).cell
        exact ⟨.tuple #[.pointer (some ⟨v, 0, none⟩), .int .i64 0], by simp [results, Try.f19, go_sem, r1, r2], some ⟨v, 0, none⟩, 0, rfl, Below.trans hMZ (hw'.below fun j hj => st.low j (by omega)), .inl ⟨by rw [HL.out.1]; exact hle, rfl, v, D, rfl, ⟨st.nv, b, (hw'.block v (st.low v (by omega))).trans hvZ, by rw [HL.out.1]; exact hTZ.stay hw' fun j hj => (st.dE j hj).1⟩, fun j hj => by have := (st.dE j hj).2; omega, by omega⟩⟩
      case stop =>
        rintro Dm cc pre E V hDm hED _ ⟨rfl, h1', h2', hM, hlow, hlt⟩ hwE _ hKD
        gi_wp2
        refine leaves_set (C := E) (B := w4.heap.size) (.cons (by omega) hKD (fun _ h => by cases h) .nil) (one_mark hED) fun w' hw' _ => ?_
        have r1 := (hw'.boxed h1' (hlow _ (by omega))).cell
        have r2 := (hw'.boxed h2' (hlow _ (by omega))).cell
        exact ⟨.tuple #[.pointer none, .int .i64 12], by simp [results, Try.f19, go_sem, r1, r2], none, 12, rfl, Below.trans hM (hw'.below fun j hj => hlow j (by omega)), .inr ⟨hlt, rfl, rfl⟩⟩
theorem vo_Learn (l : List UInt8) (hl : l.length ≤ 60000) (most : Int) (w : World) :
    Calls Try.prog 19 #[.string (bs l), .int .i64 most] w fun e w' => ∃ p c, e = .returned (.tuple #[.pointer p, .int .i64 c]) ∧ More w w' ∧ LearnOr w w' (lrn l) most p c :=
  callsIn_wide.1 (vo_learn_in 32 (Nat.le_refl _) l hl most w)
end Go.Proofs.Ytbpegpgbdemomaa
