/-
  seqbin's addLow: the low bits of a sequence, behind those of a row.
  seqbin's addHigh: the high bits of a sequence, behind those of a row.
-/
import Derived.Test.YtbjgbigalfhnjaaGreatDoorEliasAll
import Derived.Test.YtbjgbigalfhnjaaGreatDoorAddAt
import Derived.Test.YtbjgbigalfhnjaaGreatDoorSet19
import Derived.Test.YtbjgbigalfhnjaaGreatDoorPackRef
namespace Go.Proofs.YtbjgbigalfhnjaaGreatDoor
open Go.RowKit Go.Shelf
attribute [local go_sem] Oper.semAt_some

theorem RowAt.stay {C : Nat → Prop} {w w' : World} {base b V n : Nat} (h : RowAt w base b V n) (hB : ∀ k, RowBlk w b k → C k) (k : Stay C w w') : RowAt w' base b V n ∧ ∀ j, RowBlk w' b j → C j := by
  obtain ⟨v, hb, hown⟩ := h.mem
  have hb' := (k.block b (hB b (.inl rfl))).trans hb
  refine ⟨⟨h.lo, h.fit, h.len, v, hb', hown.1, hown.2.imp id fun ⟨g, cap, cur, hv, h1, hg, rest⟩ => ⟨g, cap, cur, hv, h1, (k.block g (hB g (.inr ⟨v, _, hb, by rw [hv]; rfl⟩))).trans hg, rest⟩⟩, ?_⟩
  rintro j (rfl | ⟨u, y, hu, ho⟩)
  · exact hB _ (.inl rfl)
  · rw [hb'] at hu
    simp at hu
    rw [← hu.1] at ho
    exact hB j (.inr ⟨_, _, hb, ho⟩)
/-- What Add does to a row, as a round's doing. -/
theorem turn_keeps {lo b V n : Nat} {C : Nat → Prop} {w w' : World} (hr : RowAt w lo b V n) (hC : ∀ k, RowBlk w b k → C k) (h : KeepsO lo (RowBlk w b) w w') : Turn lo C (fun k => C k ∨ (w.heap.size ≤ k ∧ k < w'.heap.size)) w w' :=
  ⟨h.below.os, h.below.tape, h.below.output, h.below.size, fun k hk hd => h.only k hk (fun hb => hd.elim (fun h => by have := (rowBlk_in hr hb).1; omega) fun h => h (hC k hb)), fun _ => Iff.rfl⟩
theorem blk_grown {lo b V n : Nat} {C : Nat → Prop} {w w' : World} (hr : RowAt w' lo b V n) (hC : ∀ k, RowBlk w b k → C k) (h : ∀ k, RowBlk w' b k → RowBlk w b k ∨ w.heap.size ≤ k) : ∀ k, RowBlk w' b k → C k ∨ (w.heap.size ≤ k ∧ k < w'.heap.size) := fun k hk =>
  (h k hk).imp (hC k) fun h => ⟨h, (rowBlk_in hr hk).2⟩

theorem rowBlk_ne {w : World} {base b V n B : Nat} {t : TypeId} {v : Value} (h : RowAt w base b V n) (hb : Boxed w B t v) (_h1 : t ≠ 102) (h2 : t ≠ 68) : ¬ RowBlk w b B := by
  obtain ⟨u, hu, hown⟩ := h.mem
  have hb' : w.heap[B]? = some (.cells #[v] t (0, 0)) := hb
  rintro (rfl | ⟨u', y, hu', ho⟩)
  · rw [hu] at hb'
    simp at hb'
  · rw [hu] at hu'
    simp at hu'
    rw [← hu'.1] at ho
    rcases hown.2 with ⟨rfl, _⟩ | ⟨g, cap, cur, rfl, _, hg, _⟩
    · simp [Value.ownBlock] at ho
    · simp [Value.ownBlock] at ho
      subst ho
      rw [hb'] at hg
      simp at hg
      exact h2 hg.2
theorem box_add {w w' : World} {base b V n B : Nat} {t : TypeId} {v : Value} (h : RowAt w base b V n) (hb : Boxed w B t v) (h1 : t ≠ 102) (h2 : t ≠ 68) (hk : KeepsO base (RowBlk w b) w w') : Boxed w' B t v :=
  (hk.only _ hb.lt (rowBlk_ne h hb h1 h2)).trans hb

/-- Between two rounds of addLow: k numbers' low bits have been added. -/
structure LoI (wA : World) (B b s d m V0 : Nat) (f : Nat → Nat) (k : Nat) (E : Nat → Prop) (V : World) : Prop where
  row : RowAt V wA.heap.size b (cat V0 m (packV d (fun i => f i % 2 ^ d) k)) (m + d * k)
  blk : ∀ j, RowBlk V b j → E j
  b3 : Boxed V B 47 (.pointer (some ⟨b, 0, none⟩))
  b5 : Boxed V (B + 1) 3 (.int .i64 d)
  bs : Boxed V (B + 1 + 1) 49 (.pointer (some ⟨s, 0, none⟩))
  more : More wA V
  low : ∀ j, j < B + 1 + 1 + 1 → E j
theorem LoI.stay {wA : World} {B b s d m V0 : Nat} {f : Nat → Nat} {k : Nat} {E : Nat → Prop} {V V' : World} (h : LoI wA B b s d m V0 f k E V) (st : Stay E V V') (hB : wA.heap.size ≤ B) : LoI wA B b s d m V0 f k E V' :=
  ⟨(h.row.stay h.blk st).1, (h.row.stay h.blk st).2, st.boxed h.b3 (h.low _ (by omega)), st.boxed h.b5 (h.low _ (by omega)), st.boxed h.bs (h.low _ (by omega)), Below.trans h.more (st.below fun j hj => h.low j (by omega)), h.low⟩
theorem LoI.next {wA : World} {B b s d m V0 : Nat} {f : Nat → Nat} {k : Nat} {E : Nat → Prop} {V V' : World} (h : LoI wA B b s d m V0 f k E V)
    (hr : RowAt V' wA.heap.size b (cat (cat V0 m (packV d (fun i => f i % 2 ^ d) k)) (m + d * k) (f k % 2 ^ d)) (m + d * k + d)) (hk : KeepsO wA.heap.size (RowBlk V b) V V') (hb : ∀ j, RowBlk V' b j → RowBlk V b j ∨ V.heap.size ≤ j) :
    LoI wA B b s d m V0 f (k + 1) (fun j => E j ∨ (V.heap.size ≤ j ∧ j < V'.heap.size)) V' := by
  have hcat : cat (cat V0 m (packV d (fun i => f i % 2 ^ d) k)) (m + d * k) (f k % 2 ^ d) = cat V0 m (packV d (fun i => f i % 2 ^ d) (k + 1)) := by
    rw [packV]; unfold cat; rw [Nat.pow_add, Nat.mul_add, Nat.mul_assoc, Nat.add_assoc]
  rw [hcat, Nat.add_assoc, ← Nat.mul_succ] at hr
  exact ⟨hr, blk_grown hr h.blk hb, box_add h.row h.b3 (by decide) (by decide) hk, box_add h.row h.b5 (by decide) (by decide) hk, box_add h.row h.bs (by decide) (by decide) hk, Below.trans h.more (hk.below.mono (Nat.le_refl _)), fun j hj => .inl (h.low j hj)⟩

theorem one_next {f : Nat → Nat} {pre : List (Int × Int)} {x1 x2 : Int} {c : Nat} (h : pre ++ [(x1, x2)] = allZ f c) : c = pre.length + 1 ∧ x1 = (pre.length : Int) ∧ x2 = (f pre.length : Int) := by
  have hl := congrArg List.length h
  rw [allZ_len] at hl
  simp at hl
  subst hl
  rw [allZ_succ] at h
  have := (List.append_inj' h rfl).2
  simp at this
  exact ⟨rfl, this.1, this.2⟩

set_option maxRecDepth 1000000 in
set_option maxHeartbeats 4000000 in
theorem sb_low (n : Nat) (hn : 16 ≤ n) (base s : Nat) (f : Nat → Nat) (N : Nat) (wA w : World) (hA : SeqAt wA base s f N) (hT : TabIn wA) (hM : More wA w) (b V0 m d : Nat) (hr : RowAt w wA.heap.size b V0 m) (hd40 : d ≤ 40) (hlen : m + d * N + 64 ≤ 1099511627776) :
    CallsIn Fence.wide n Tryz.prog 51 #[.pointer (some ⟨b, 0, none⟩), .pointer (some ⟨s, 0, none⟩), .int .i64 d] w fun e w' => e = .returned (.tuple #[]) ∧ RowAt w' wA.heap.size b (cat V0 m (packV d (fun i => f i % 2 ^ d) N)) (m + d * N) ∧ More wA w' := by
  have h1 : 1 ≤ n := by omega
  obtain ⟨wz, hwz⟩ : ∃ wz, (w.alloc (.cells #[.pointer (some ⟨b, 0, none⟩)] 47)).alloc (.cells #[.int .i64 d] 3) = wz := ⟨_, rfl⟩
  have hmz : More w wz := by rw [← hwz]; exact (more_alloc _ _).alloc (more_alloc _ _).size _
  have bz3 : Boxed wz w.heap.size 47 (.pointer (some ⟨b, 0, none⟩)) := by rw [← hwz]; exact (Boxed.new _ _ _).alloc _
  have bz5 : Boxed wz (w.heap.size + 1) 3 (.int .i64 d) := by
    have := Boxed.new (w.alloc (.cells #[.pointer (some ⟨b, 0, none⟩)] 47)) 3 (.int .i64 d)
    rw [World.size_alloc] at this
    rw [← hwz]; exact this
  have hsz : wz.heap.size = w.heap.size + 1 + 1 := by rw [← hwz]; simp
  have hCl := hA.climbs
  have hseq := eall_in (n - 1) (by omega) (w.heap.size + 1 + 1) base s f N wA hA hT
  have HH := Hid.mk (And.intro hmz (And.intro bz3 (And.intro bz5 (And.intro hM hr))))
  clear hA hT hmz bz3 bz5 hM hr
  refine callsIn_of_wp_marks Tryz.func51 rfl trivial ?_ rfl
  simp only [Tryz.ntmps51, List.size_toArray, List.length_cons, List.length_nil, Nat.reduceAdd, Nat.reduceSub, Array.replicate_succ, Array.replicate_zero, List.push_toArray, List.append_toArray, List.nil_append, List.cons_append]
  gi_wp2_with (refine ⟨trivial, ?_⟩; gi_at_call 62; refine (eall_call _ _ _).mono ?_; rintro e w' ⟨rfl, hw'⟩; subst w')
  obtain ⟨w1, hw1⟩ : ∃ w1, wz.alloc (.cells #[.pointer (some ⟨s, 0, none⟩)] 49) = w1 := ⟨_, rfl⟩
  have hm1 : More wz w1 := by rw [← hw1]; exact more_alloc _ _
  have hs1 : w1.heap.size = w.heap.size + 1 + 1 + 1 := by rw [← hw1]; simp [hsz]
  have b4 : Boxed w1 (w.heap.size + 1 + 1) 49 (.pointer (some ⟨s, 0, none⟩)) := by rw [← hw1, ← hsz]; exact Boxed.new _ _ _
  have hww1 := More.trans HH.out.1 hm1
  have hA1 := More.trans HH.out.2.2.2.1 hww1
  have hAB := HH.out.2.2.2.1.size
  have hrow1 := More.row HH.out.2.2.2.2 hww1
  have st1 : LoI wA w.heap.size b s d m V0 f 0 (fun k => k < w1.heap.size) w1 := ⟨by simpa [packV, cat] using hrow1, fun j hj => (rowBlk_in hrow1 hj).2, boxed_more HH.out.2.1 hm1, boxed_more HH.out.2.2.1 hm1, b4, hA1, fun j hj => by rw [hs1]; exact hj⟩
  rw [hw1]
  clear hw1 hwz HH b4 hrow1
  refine range_set rfl h1 (gf := 88) (lb := #[.pointer (some ⟨w.heap.size + 1 + 1, 0, none⟩)]) rfl trivial (enters_of Tryz.func88 (by kernel_rfl) rfl)
    hseq (by omega) hA1 (fun _ => rfl)
    (fun pre E V => LoI wA w.heap.size b s d m V0 f pre.length E V)
    (fun _ _ _ _ => False)
    (fun s E A A' h k => h.stay k hAB)
    (fun _ _ _ _ _ h _ => h)
    (fun _ _ _ h => h.bs) st1
    (fun x => { tmps := #[.pointer (some ⟨b, 0, none⟩), .pointer (some ⟨s, 0, none⟩), .int .i64 d, .pointer (some ⟨w.heap.size, 0, none⟩), undef, .pointer (some ⟨w.heap.size + 1, 0, none⟩), undef, .int .i64 x.2, .pointer (some ⟨s, 0, none⟩), .func (.func 88) #[] #[.pointer (some ⟨w.heap.size + 1 + 1, 0, none⟩)], .int .i64 x.1, .int .i64 x.2, undef, undef, undef, undef, undef, undef, undef], defers := [] }) ?assign ?body ?done ?stop
  case assign =>
    intro l2 x V K' hK'
    gi_wp2
    exact hK'
  case body =>
    rintro l2 pre ⟨x1, x2⟩ V E ⟨c, hc, hSp⟩ st hwE _ hszV hlenN
    obtain ⟨rfl, rfl, rfl⟩ := one_next hSp
    clear hSp
    have hd : 1 ≤ n - 1 - 1 := by omega
    obtain ⟨k, hk⟩ : ∃ k, pre.length = k := ⟨_, rfl⟩
    have HL : Hid (∀ x : Int × Int, (pre ++ [x]).length = k + 1) := Hid.mk fun x => by rw [List.length_append, List.length_singleton, hk]
    rw [hk] at st hlenN hc ⊢
    clear hk
    have c3 := fun j => (boxed_more st.b3 (More.drewN V j)).cell
    have c5 := fun j => (boxed_more st.b5 (More.drewN V j)).cell
    have hXt := hCl.top k hlenN
    obtain ⟨X, hX⟩ : ∃ X, f k = X := ⟨_, rfl⟩
    have hdk : d * k ≤ d * N := Nat.mul_le_mul_left d (by omega)
    have hlt : X % 2 ^ d < 2 ^ d := Nat.mod_lt _ (Nat.two_pow_pos d)
    have h64 : X % 2 ^ d < 18446744073709551616 := Nat.lt_of_lt_of_le hlt (pow_le64 (by omega))
    have hcut := fun w => lane_Cut X (by omega) 0 d w
    rw [show sh X 0 = X by unfold sh; simp, show min 64 (d : Int).toNat = d by omega] at hcut
    have hx : IntKind.u64.wrap (X : Int) = X := by rw [IntKind.wrap_u64]; omega
    have hadd := fun j => row_add_at wA.heap.size b _ _ (X % 2 ^ d) d (V.drewN j) (More.row st.row (More.drewN V j)) (Nat.le_trans st.more.size (More.drewN V j).size) h64 (Lib.bitLen_le _ _ (by omega) hlt) (by omega) (by omega)
    obtain ⟨Y, hY⟩ : ∃ Y, X % 2 ^ d = Y := ⟨_, rfl⟩
    rw [hX]
    rw [hY] at hcut hadd
    have HX := Hid.mk (And.intro hX hY)
    have HS := Hid.mk st
    clear st hX hY hXt hdk hlt h64 hseq hm1 hww1 hA1 st1
    gi_wp2
    refine region_det1 6 12 [.pointer (some ⟨b, 0, none⟩), .int .i64 X, .int .u64 X, .int .i64 d, .int .u64 Y, .int .i64 d]
      { tmps := #[.pointer (some ⟨b, 0, none⟩), .pointer (some ⟨s, 0, none⟩), .int .i64 d, .pointer (some ⟨w.heap.size, 0, none⟩), undef, .pointer (some ⟨w.heap.size + 1, 0, none⟩), undef, .int .i64 X, .pointer (some ⟨s, 0, none⟩), .func (.func 88) #[] #[.pointer (some ⟨w.heap.size + 1 + 1, 0, none⟩)], .int .i64 k, .int .i64 X, .pointer (some ⟨b, 0, none⟩), .int .i64 X, .int .u64 X, .int .i64 d, .int .u64 Y, .int .i64 d, undef], defers := [] }
      (fun w' => ∃ j, w' = V.drewN j) (by kernel_rfl) (det1_of (by kernel_rfl)) (by kernel_rfl) (Nat.le_of_ble_eq_true (by kernel_rfl)) ⟨1, rfl⟩ ?step ?fin
    case step =>
      rintro i hi w' ⟨j, rfl⟩
      have c3 := c3 j
      have c5 := c5 j
      rcases (show i = 0 ∨ i = 1 ∨ i = 2 ∨ i = 3 ∨ i = 4 ∨ i = 5 by omega) with rfl | rfl | rfl | rfl | rfl | rfl
      case inr.inr.inr.inr.inl =>
        refine wpOpIn_step rfl (fun K hK => ?_)
        go_simp
        refine ⟨trivial, (CallsIn.inRound l2 (callsIn_wide.2 (hcut (V.drewN j)))).mono ?_⟩
        rintro e w'' ⟨rfl, mm, hw''⟩
        subst w''
        exact hK _ _ ⟨rfl, rfl, j + mm, by rw [World.drewN_drewN]⟩
      all_goals
        refine wpOpIn_step rfl (fun K hK => ?_)
        go_simp
        exact hK _ _ ⟨rfl, rfl, j, rfl⟩
    case fin =>
      rintro w' ⟨j, rfl⟩
      refine wpOpIn_step rfl (fun K hK => ?_)
      go_simp
      refine ⟨trivial, (CallsIn.inRound l2 (callsIn_wide.2 (hadd j))).mono ?_⟩
      rintro e w'' ⟨rfl, hrow, hkeep, hblk⟩
      refine hK _ _ ?_
      have hstj := HS.out.stay (V' := V.drewN j) (Stay.of_more (More.drewN V j) hwE) hAB
      rw [← HX.out.2, ← HX.out.1] at hrow
      have HO := Hid.mk (And.intro (turn_keeps hstj.row hstj.blk hkeep).drawn (hstj.next hrow hkeep hblk))
      clear hrow hkeep hblk hK hadd hcut c3 c5 hstj
      gi_wp2
      refine ⟨_, HO.out.1, ?_⟩
      dsimp only
      rw [HL.out]
      exact HO.out.2
  case done =>
    rintro D ys E V hD hED rfl st hwE _ hKD
    rw [allZ_len] at st
    gi_wp2
    exact leaves_set (C := E) (B := w1.heap.size) (.cons (by omega) hKD (fun _ h => by cases h) .nil) (one_mark hED) fun w' hw' _ => ⟨_, results_none rfl _ _ _, rfl, (st.stay hw' hAB).row, (st.stay hw' hAB).more⟩
  case stop =>
    rintro D cc pre E V hD hED _ h _ _ _
    exact h.elim

end Go.Proofs.YtbjgbigalfhnjaaGreatDoor

namespace Go.Proofs.YtbjgbigalfhnjaaGreatDoor
open Go.RowKit Go.Shelf
attribute [local go_sem] Oper.semAt_some

/-- Within addHigh: the row, what is ahead, the boxes. -/
structure HiI (wA : World) (B b s d A U n : Nat) (E : Nat → Prop) (V : World) : Prop where
  row : RowAt V wA.heap.size b U n
  blk : ∀ j, RowBlk V b j → E j
  b3 : Boxed V B 47 (.pointer (some ⟨b, 0, none⟩))
  b5 : Boxed V (B + 1) 3 (.int .i64 d)
  b6 : Boxed V (B + 1 + 1) 3 (.int .i64 A)
  bs : Boxed V (B + 1 + 1 + 1) 49 (.pointer (some ⟨s, 0, none⟩))
  more : More wA V
  low : ∀ j, j < B + 1 + 1 + 1 + 1 → E j
theorem HiI.stay {wA : World} {B b s d A U n : Nat} {E : Nat → Prop} {V V' : World} (h : HiI wA B b s d A U n E V) (st : Stay E V V') (hB : wA.heap.size ≤ B) : HiI wA B b s d A U n E V' :=
  ⟨(h.row.stay h.blk st).1, (h.row.stay h.blk st).2, st.boxed h.b3 (h.low _ (by omega)), st.boxed h.b5 (h.low _ (by omega)), st.boxed h.b6 (h.low _ (by omega)), st.boxed h.bs (h.low _ (by omega)), Below.trans h.more (st.below fun j hj => h.low j (by omega)), h.low⟩
theorem HiI.add {wA : World} {B b s d A U n U' n' : Nat} {E : Nat → Prop} {V V' : World} (h : HiI wA B b s d A U n E V)
    (hr : RowAt V' wA.heap.size b U' n') (hk : KeepsO wA.heap.size (RowBlk V b) V V') (hb : ∀ j, RowBlk V' b j → RowBlk V b j ∨ V.heap.size ≤ j) :
    HiI wA B b s d A U' n' (fun j => E j ∨ (V.heap.size ≤ j ∧ j < V'.heap.size)) V' :=
  ⟨hr, blk_grown hr h.blk hb, box_add h.row h.b3 (by decide) (by decide) hk, box_add h.row h.b5 (by decide) (by decide) hk, box_add h.row h.b6 (by decide) (by decide) hk, box_add h.row h.bs (by decide) (by decide) hk, Below.trans h.more (hk.below.mono (Nat.le_refl _)), fun j hj => .inl (h.low j hj)⟩
theorem HiI.set {wA : World} {B b s d A U n : Nat} {E : Nat → Prop} {V : World} (h : HiI wA B b s d A U n E V) (hB : wA.heap.size ≤ B) (A' : Nat) : HiI wA B b s d A' U n E (V.setCell ⟨B + 1 + 1, 0, none⟩ (.int .i64 A')) ∧ Turn wA.heap.size E E V (V.setCell ⟨B + 1 + 1, 0, none⟩ (.int .i64 A')) := by
  have hne := rowBlk_ne h.row h.b6 (by decide) (by decide)
  have hst : Stay (fun k => RowBlk V b k) V (V.setCell ⟨B + 1 + 1, 0, none⟩ (.int .i64 A')) := (Stay.refl _ V).setCell (p := ⟨B + 1 + 1, 0, none⟩) hne _
  have hr := h.row.stay (fun _ h => h) hst
  refine ⟨⟨hr.1, fun j hj => h.blk j (hr.2 j hj), h.b3.other (by omega) _, h.b5.other (by omega) _, h.b6.set _, h.bs.other (by omega) _, h.more.setCell (p := ⟨B + 1 + 1, 0, none⟩) (by simp; omega) _, h.low⟩, ?_⟩
  exact (Turn.refl _ _ _).setCell (p := ⟨B + 1 + 1, 0, none⟩) (by simp; omega) (h.low _ (by simp)) _

theorem hi_join (V0 m U q j R p : Nat) (hp : q + 64 * j + R = p) : cat (cat V0 m U) (m + (q + 64 * j)) (2 ^ R) = cat V0 m (cat U p 1) := by
  subst hp
  unfold cat
  rw [Nat.mul_one, Nat.pow_add 2 m, Nat.mul_assoc, ← Nat.pow_add, Nat.mul_add]
  omega

set_option maxRecDepth 1000000 in
set_option maxHeartbeats 8000000 in
theorem sb_high (n : Nat) (hn : 16 ≤ n) (base s : Nat) (f : Nat → Nat) (N : Nat) (wA w : World) (hA : SeqAt wA base s f N) (hT : TabIn wA) (hM : More wA w) (b V0 m d : Nat) (hr : RowAt w wA.heap.size b V0 m) (hd40 : d ≤ 40) (hlen : m + hN f d N + 64 ≤ 1099511627776) :
    CallsIn Fence.wide n Tryz.prog 52 #[.pointer (some ⟨b, 0, none⟩), .pointer (some ⟨s, 0, none⟩), .int .i64 d] w fun e w' => e = .returned (.tuple #[]) ∧ RowAt w' wA.heap.size b (cat V0 m (hV f d N)) (m + hN f d N) ∧ More wA w' := by
  have h1 : 1 ≤ n := by omega
  obtain ⟨wy, hwy⟩ : ∃ wy, ((w.alloc (.cells #[.pointer (some ⟨b, 0, none⟩)] 47)).alloc (.cells #[.int .i64 d] 3)).alloc (.cells #[.int .i64 0] 3) = wy := ⟨_, rfl⟩
  have hmy : More w wy := by rw [← hwy]; exact ((more_alloc _ _).alloc (more_alloc _ _).size _).alloc (by simp; omega) _
  have by3 : Boxed wy w.heap.size 47 (.pointer (some ⟨b, 0, none⟩)) := by rw [← hwy]; exact ((Boxed.new _ _ _).alloc _).alloc _
  have by5 : Boxed wy (w.heap.size + 1) 3 (.int .i64 d) := by
    have := (Boxed.new (w.alloc (.cells #[.pointer (some ⟨b, 0, none⟩)] 47)) 3 (.int .i64 d)).alloc (.cells #[.int .i64 0] 3)
    rw [World.size_alloc] at this
    rw [← hwy]; exact this
  have by6 : Boxed wy (w.heap.size + 1 + 1) 3 (.int .i64 0) := by
    have := Boxed.new ((w.alloc (.cells #[.pointer (some ⟨b, 0, none⟩)] 47)).alloc (.cells #[.int .i64 d] 3)) 3 (.int .i64 0)
    rw [World.size_alloc, World.size_alloc] at this
    rw [← hwy]; exact this
  have cy := by6.cell
  have fy := by6.frozen
  have hsy : wy.heap.size = w.heap.size + 1 + 1 + 1 := by rw [← hwy]; simp
  obtain ⟨wz, hwz⟩ : ∃ wz, wy.setCell ⟨w.heap.size + 1 + 1, 0, none⟩ (.int .i64 0) = wz := ⟨_, rfl⟩
  have hmz : More w wz := by rw [← hwz]; exact hmy.setCell (p := ⟨w.heap.size + 1 + 1, 0, none⟩) (by simp; omega) _
  have bz3 : Boxed wz w.heap.size 47 (.pointer (some ⟨b, 0, none⟩)) := by rw [← hwz]; exact by3.other (by omega) _
  have bz5 : Boxed wz (w.heap.size + 1) 3 (.int .i64 d) := by rw [← hwz]; exact by5.other (by omega) _
  have bz6 : Boxed wz (w.heap.size + 1 + 1) 3 (.int .i64 0) := by rw [← hwz]; exact by6.set _
  have hsz : wz.heap.size = w.heap.size + 1 + 1 + 1 := by rw [← hwz, ← hsy]; simp
  have hCl := hA.climbs
  have hseq := eall_in (n - 1) (by omega) (w.heap.size + 1 + 1 + 1) base s f N wA hA hT
  have HH := Hid.mk (And.intro hmz (And.intro bz3 (And.intro bz5 (And.intro bz6 (And.intro hM hr)))))
  clear hA hT hmz bz3 bz5 bz6 hM hr hmy by3 by5 by6
  refine callsIn_of_wp_marks Tryz.func52 rfl trivial ?_ rfl
  simp only [Tryz.ntmps52, List.size_toArray, List.length_cons, List.length_nil, Nat.reduceAdd, Nat.reduceSub, Array.replicate_succ, Array.replicate_zero, List.push_toArray, List.append_toArray, List.nil_append, List.cons_append]
  gi_wp2_with (refine ⟨trivial, ?_⟩; gi_at_call 62; refine (eall_call _ _ _).mono ?_; rintro e w' ⟨rfl, hw'⟩; subst w')
  obtain ⟨w1, hw1⟩ : ∃ w1, wz.alloc (.cells #[.pointer (some ⟨s, 0, none⟩)] 49) = w1 := ⟨_, rfl⟩
  have hm1 : More wz w1 := by rw [← hw1]; exact more_alloc _ _
  have hs1 : w1.heap.size = w.heap.size + 1 + 1 + 1 + 1 := by rw [← hw1]; simp [hsz]
  have b4 : Boxed w1 (w.heap.size + 1 + 1 + 1) 49 (.pointer (some ⟨s, 0, none⟩)) := by rw [← hw1, ← hsz]; exact Boxed.new _ _ _
  have hww1 := More.trans HH.out.1 hm1
  have hA1 := More.trans HH.out.2.2.2.2.1 hww1
  have hAB := HH.out.2.2.2.2.1.size
  have hrow1 := More.row HH.out.2.2.2.2.2 hww1
  have st1 : HiI wA w.heap.size b s d 0 V0 m (fun k => k < w1.heap.size) w1 := ⟨hrow1, fun j hj => (rowBlk_in hrow1 hj).2, boxed_more HH.out.2.1 hm1, boxed_more HH.out.2.2.1 hm1, boxed_more HH.out.2.2.2.1 hm1, b4, hA1, fun j hj => by rw [hs1]; exact hj⟩
  rw [hw1]
  clear hw1 hwz hwy HH b4 hrow1 cy fy
  refine range_set rfl h1 (gf := 88) (lb := #[.pointer (some ⟨w.heap.size + 1 + 1 + 1, 0, none⟩)]) rfl trivial (enters_of Tryz.func88 (by kernel_rfl) rfl)
    hseq (by omega) hA1 (fun _ => rfl)
    (fun pre E V => ∃ A, A + pre.length = hN f d pre.length ∧ HiI wA w.heap.size b s d A (cat V0 m (hV f d pre.length)) (m + hN f d pre.length) E V)
    (fun _ _ _ _ => False)
    (fun s E A A' ⟨a, h1, h2⟩ k => ⟨a, h1, h2.stay k hAB⟩)
    (fun _ _ _ _ _ h _ => h)
    (fun _ _ _ ⟨_, _, h⟩ => h.bs) ⟨0, rfl, by simpa [hV, hN, cat] using st1⟩
    (fun x => { tmps := #[.pointer (some ⟨b, 0, none⟩), .pointer (some ⟨s, 0, none⟩), .int .i64 d, .pointer (some ⟨w.heap.size, 0, none⟩), undef, .pointer (some ⟨w.heap.size + 1, 0, none⟩), .pointer (some ⟨w.heap.size + 1 + 1, 0, none⟩), undef, .int .i64 x.2, undef, .pointer (some ⟨s, 0, none⟩), .func (.func 88) #[] #[.pointer (some ⟨w.heap.size + 1 + 1 + 1, 0, none⟩)], .int .i64 x.1, .int .i64 x.2, undef, undef, undef, undef, undef, undef, undef, undef, undef, undef, undef, undef, undef, undef, undef, undef, undef, undef, undef, undef], defers := [] }) ?assign ?body ?done ?stop
  case assign =>
    intro l2 x V K' hK'
    gi_wp2
    exact hK'
  case body =>
    rintro l2 pre ⟨x1, x2⟩ V E ⟨c, hc, hSp⟩ ⟨A, hAk, st⟩ hwE _ hszV hlenN
    obtain ⟨rfl, rfl, rfl⟩ := one_next hSp
    clear hSp
    have hd : 1 ≤ n - 1 - 1 := by omega
    obtain ⟨k, hk⟩ : ∃ k, pre.length = k := ⟨_, rfl⟩
    have HL : Hid (∀ x : Int × Int, (pre ++ [x]).length = k + 1) := Hid.mk fun x => by rw [List.length_append, List.length_singleton, hk]
    rw [hk] at st hlenN hc hAk ⊢
    clear hk
    have c5 := fun j => (boxed_more st.b5 (More.drewN V j)).cell
    have c6 := fun j => (boxed_more st.b6 (More.drewN V j)).cell
    have hXt := hCl.top k hlenN
    have hle := hN_le hCl d hlenN
    have htop := hN_top hCl d hlenN
    obtain ⟨X, hX⟩ : ∃ X, f k = X := ⟨_, rfl⟩
    obtain ⟨H, hH⟩ : ∃ H, X / 2 ^ d = H := ⟨_, rfl⟩
    have hpe : hp f d k = H + k := by unfold hp; rw [hX, hH]
    have hHf : H ≤ X := by rw [← hH]; exact Nat.div_le_self _ _
    have hsh : (X : Int) / 2 ^ d = (H : Int) := by rw [← hH, Int.natCast_ediv, Int.natCast_pow]; rfl
    obtain ⟨M, hMe⟩ : ∃ M, H = A + M := ⟨H - A, by omega⟩
    have e1 : (H : Int) - (A : Int) = M := by omega
    have e2 : (A : Int) + (M : Int) = H := by omega
    have hHb : H ≤ 1099511627776 := by omega
    have hMb : M ≤ 1099511627776 := by omega
    have hAb : A ≤ 1099511627776 := by omega
    have hwM : IntKind.i64.wrap (M : Int) = M := by rw [IntKind.wrap_i64]; omega
    rw [hX]
    have HX := Hid.mk (And.intro hX (And.intro hpe (And.intro hle (And.intro htop (And.intro hMe hAk)))))
    have HS := Hid.mk st
    clear st hX hH hXt hseq hm1 hww1 hA1 st1 hpe hle htop hMe hAk hHf hc
    gi_wp2
    refine region_det1 5 14 [.int .i64 X, .int .i64 d, .int .i64 H, .int .i64 A, .int .i64 M]
      { tmps := #[.pointer (some ⟨b, 0, none⟩), .pointer (some ⟨s, 0, none⟩), .int .i64 d, .pointer (some ⟨w.heap.size, 0, none⟩), undef, .pointer (some ⟨w.heap.size + 1, 0, none⟩), .pointer (some ⟨w.heap.size + 1 + 1, 0, none⟩), undef, .int .i64 X, undef, .pointer (some ⟨s, 0, none⟩), .func (.func 88) #[] #[.pointer (some ⟨w.heap.size + 1 + 1 + 1, 0, none⟩)], .int .i64 k, .int .i64 X, .int .i64 X, .int .i64 d, .int .i64 H, .int .i64 A, .int .i64 M, undef, undef, undef, undef, undef, undef, undef, undef, undef, undef, undef, undef, undef, undef, undef], defers := [] }
      (fun w' => ∃ j, w' = V.drewN j) (by kernel_rfl) (det1_of (by kernel_rfl)) (by kernel_rfl) (Nat.le_of_ble_eq_true (by kernel_rfl)) ⟨1, rfl⟩ ?step ?fin
    case step =>
      rintro i hi w' ⟨j, rfl⟩
      have c5 := c5 j
      have c6 := c6 j
      rcases (show i = 0 ∨ i = 1 ∨ i = 2 ∨ i = 3 ∨ i = 4 by omega) with rfl | rfl | rfl | rfl | rfl
      all_goals
        refine wpOpIn_step rfl (fun K hK => ?_)
        go_simp
        exact hK _ _ ⟨rfl, rfl, j, rfl⟩
    case fin =>
      rintro w' ⟨j, rfl⟩
      have hstj := HS.out.stay (V' := V.drewN j) (Stay.of_more (More.drewN V j) hwE) hAB
      have hwEj : Within E (V.drewN j) := hwE.more (More.drewN V j).size
      have htj : Turn wA.heap.size E E V (V.drewN j) := (Turn.refl wA.heap.size E (V.drewN j)).drawn
      generalize V.drewN j = Vj at *
      refine wpOpIn_step rfl (fun K hK => ?_)
      go_simp
      refine hK _ _ ?_
      clear hK c5 c6
      have d6 := hstj.b6.cell
      have g6 := hstj.b6.frozen
      have hset := hstj.set hAB H
      have HV := Hid.mk (And.intro hset.1 (And.intro (htj.trans hset.2) (hwEj.more (KeepsOthers.setCell Vj ⟨w.heap.size + 1 + 1, 0, none⟩ (.int .i64 H)).size)))
      clear hset hstj htj hwEj
      gi_wp2
      generalize Vj.setCell ⟨w.heap.size + 1 + 1, 0, none⟩ (.int .i64 H) = Vs at *
      gi_loopw [9] (fun cc wi => ∃ (R j : Nat) (E' : Nat → Prop), cc = .int .i64 R ∧ R ≤ M ∧ Hid (R + 64 * j = M ∧ HiI wA w.heap.size b s d H (cat V0 m (hV f d k)) (m + (hN f d k + 64 * j)) E' wi ∧ Turn wA.heap.size E E' V wi ∧ Within E' wi)) (fun cc _ => (intOf cc).toNat)
      case atStart => exact ⟨M, 0, E, rfl, Nat.le_refl _, Hid.mk ⟨rfl, HV.out.1, HV.out.2.1, HV.out.2.2⟩⟩
      case round =>
        obtain ⟨R, j, E', rfl, hRM, HI⟩ := hrel
        have hnl : m + (hN f d k + 64 * j) + 64 ≤ 1099511627776 := by have h1 := HI.out.1; have h2 := HX.out; omega
        have c3 := fun i => (boxed_more HI.out.2.1.b3 (More.drewN wr i)).cell
        have c30 := HI.out.2.1.b3.cell
        by_cases hR : 64 ≤ R
        · have hadd := row_add_at wA.heap.size b _ _ 0 64 wr HI.out.2.1.row HI.out.2.1.more.size (by decide) (by decide) (by decide) hnl
          clear hnl c3
          gi_wp2_with (refine ⟨trivial, ?_⟩; gi_at_call 75; refine (CallsIn.inRound l2 (callsIn_wide.2 hadd)).mono ?_; rintro e w3 ⟨rfl, hrow, hkeep, hblk⟩; have H1 := Hid.mk (And.intro (HI.out.2.1.add hrow hkeep hblk) (turn_keeps HI.out.2.1.row HI.out.2.1.blk hkeep)); clear hrow hkeep hblk)
          refine ⟨⟨R - 64, j + 1, _, by go_num, by omega, Hid.mk ⟨by have := HI.out.1; omega, ?_, HI.out.2.2.1.trans H1.out.2, H1.out.2.within HI.out.2.2.2⟩⟩, by simp [intOf]; omega⟩
          have := H1.out.1
          rw [cat_nought, Nat.add_assoc, Nat.add_assoc, ← Nat.mul_succ] at this
          exact this
        · have hpw0 : (2 : Nat) ^ R < 2 ^ 64 := Nat.pow_lt_pow_right (by decide) (by omega)
          have hadd := fun i => row_add_at wA.heap.size b _ _ (2 ^ R) (R + 1) (wr.drewN i) (More.row HI.out.2.1.row (More.drewN wr i)) (Nat.le_trans HI.out.2.1.more.size (More.drewN wr i).size) hpw0 (Lib.bitLen_le _ _ (by omega) (Nat.pow_lt_pow_right (by decide) (by omega))) (by omega) hnl
          obtain ⟨P, hP⟩ : ∃ P, 2 ^ R = P := ⟨_, rfl⟩
          have hpw : IntKind.u64.wrap ((2 : Int) ^ R) = (P : Int) := by
            have h2 : ((2 ^ R : Nat) : Int) = (2 : Int) ^ R := by rw [Int.natCast_pow]; rfl
            rw [← h2, hP]
            rw [hP] at hpw0
            rw [IntKind.wrap_u64]; omega
          rw [hP] at hadd
          have HP := Hid.mk hP
          have hwR : IntKind.i64.wrap ((R : Int) + 1) = (R : Int) + 1 := by rw [IntKind.wrap_i64]; omega
          clear hnl hP hpw0 c30
          gi_wp2
          refine region_det1 5 28 [.pointer (some ⟨b, 0, none⟩), .int .i64 R, .int .u64 P, .int .i64 R, .int .i64 ((R : Int) + 1)]
            { tmps := #[.pointer (some ⟨b, 0, none⟩), .pointer (some ⟨s, 0, none⟩), .int .i64 d, .pointer (some ⟨w.heap.size, 0, none⟩), undef, .pointer (some ⟨w.heap.size + 1, 0, none⟩), .pointer (some ⟨w.heap.size + 1 + 1, 0, none⟩), undef, .int .i64 X, .int .i64 R, .pointer (some ⟨s, 0, none⟩), .func (.func 88) #[] #[.pointer (some ⟨w.heap.size + 1 + 1 + 1, 0, none⟩)], .int .i64 k, .int .i64 X, .int .i64 X, .int .i64 d, .int .i64 H, .int .i64 A, .int .i64 M, .int .i64 A, .int .i64 M, .int .i64 H, .int .i64 R, .bool (decide (64 ≤ (R : Int))), u24, u25, u26, u27, .pointer (some ⟨b, 0, none⟩), .int .i64 R, .int .u64 P, .int .i64 R, .int .i64 ((R : Int) + 1), undef], defers := [] }
            (fun w' => ∃ i, w' = wr.drewN i) (by kernel_rfl) (det1_of (by kernel_rfl)) (by kernel_rfl) (Nat.le_of_ble_eq_true (by kernel_rfl)) ⟨1, rfl⟩ ?step2 ?fin2
          case step2 =>
            rintro i hi w' ⟨j2, rfl⟩
            have c3 := c3 j2
            rcases (show i = 0 ∨ i = 1 ∨ i = 2 ∨ i = 3 ∨ i = 4 by omega) with rfl | rfl | rfl | rfl | rfl
            all_goals
              refine wpOpIn_step rfl (fun K hK => ?_)
              go_simp
              exact hK _ _ ⟨rfl, rfl, j2, rfl⟩
          case fin2 =>
            rintro w' ⟨j2, rfl⟩
            have hadd2 := hadd j2
            rw [Int.natCast_add R 1] at hadd2
            refine wpOpIn_step rfl (fun K hK => ?_)
            go_simp
            refine ⟨trivial, (CallsIn.inRound l2 (callsIn_wide.2 hadd2)).mono ?_⟩
            rintro e w3 ⟨rfl, hrow, hkeep, hblk⟩
            refine hK _ _ ?_
            have hst2 := HI.out.2.1.stay (V' := wr.drewN j2) (Stay.of_more (More.drewN wr j2) HI.out.2.2.2) hAB
            have hpp : hN f d k + 64 * j + R = hp f d k := by have h1 := HI.out.1; have h2 := HX.out; omega
            rw [← HP.out, hi_join V0 m (hV f d k) (hN f d k) j R _ hpp, show m + (hN f d k + 64 * j) + (R + 1) = m + (hp f d k + 1) by omega] at hrow
            have HO := Hid.mk (And.intro (HI.out.2.2.1.trans (turn_keeps hst2.row hst2.blk hkeep).drawn) (hst2.add hrow hkeep hblk))
            clear hrow hkeep hblk hK hadd hadd2 c3 hst2
            gi_wp2
            refine ⟨_, HO.out.1, ?_⟩
            dsimp only
            rw [HL.out]
            exact ⟨H, by rw [hN, HX.out.2.1]; omega, HO.out.2⟩
  case done =>
    rintro D ys E V hD hED rfl ⟨A, _, st⟩ hwE _ hKD
    rw [allZ_len] at st
    gi_wp2
    exact leaves_set (C := E) (B := w1.heap.size) (.cons (by omega) hKD (fun _ h => by cases h) .nil) (one_mark hED) fun w' hw' _ => ⟨_, results_none rfl _ _ _, rfl, (st.stay hw' hAB).row, (st.stay hw' hAB).more⟩
  case stop =>
    rintro D cc pre E V hD hED _ h _ _ _
    exact h.elim

end Go.Proofs.YtbjgbigalfhnjaaGreatDoor
