/-
  intern: a key is set into its slot.
-/
import Derived.Test.YtiiflegfbieblaaInM
import Derived.Test.YtiiflegfbieblaaAnyD
import Derived.Test.YtiiflegfbieblaaQuietRound
namespace Go.Proofs.Ytiiflegfbieblaa
open Go.RowKit Go.Shelf
attribute [local go_sem] Oper.semAt_some

set_option maxRecDepth 1000000 in
set_option maxHeartbeats 4000000 in
theorem in_take (n : Nat) (hn : 16 ≤ n) (w : World) (D : Nat → Prop) (b m i k j : Nat) (vk vh vd : Value) (ts : List (List UInt8)) (hs : List Nat) (f : Nat → Nat) (hT : Tb w D b vk vh vd ts hs m f) (hi : i < hs.length) (hi2 : i < 1099511627776) (hf : ∀ p, f p < 1099511627776)
    (hk : k ≤ 40) (hm : m = 2 ^ k) (hj : j < m) (h0 : f ((hs.getD i 0 + j) % m) = 0) (hne : ∀ c, c < j → f ((hs.getD i 0 + c) % m) ≠ 0) :
    CallsIn Fence.wide n Try.prog 68 #[.pointer (some ⟨b, 0, none⟩), .int .i64 i] w fun e w' => (∃ v, e = .returned v) ∧ Tb w' D b vk vh vd ts hs m (setF f ((hs.getD i 0 + j) % m) (i + 1)) ∧ Off D w w' := by
  have h1 : 1 ≤ n := by omega
  obtain ⟨gh, ch, hvh, _, hch⟩ := hT.hash (by omega)
  obtain ⟨gd, cd, hvd, hDd, hcd, hfd⟩ := hT.slot (by omega)
  subst hvh
  subst hvd
  obtain ⟨a, ha⟩ : ∃ a, hs.getD i 0 = a := ⟨_, rfl⟩
  rw [ha] at h0 hne ⊢
  have cH := hch i hi
  rw [ha] at cH
  obtain ⟨kb1, kb2, kb3, _⟩ := hT.cells
  obtain ⟨wa, hwa⟩ : ∃ wa, (w.alloc (.cells #[.pointer (some ⟨b, 0, none⟩)] 95)).alloc (.cells #[.int .i64 i] 3) = wa := ⟨_, rfl⟩
  have hma : More w wa := by rw [← hwa]; exact ((Below.refl _ w).alloc (Nat.le_refl _) _).alloc (by simp) _
  have hsa : wa.heap.size = w.heap.size + 1 + 1 := by rw [← hwa]; simp
  have b1 : Boxed wa w.heap.size 95 (.pointer (some ⟨b, 0, none⟩)) := by rw [← hwa]; exact alloc2_old _ _ _
  have b2 : Boxed wa (w.heap.size + 1) 3 (.int .i64 i) := by rw [← hwa]; exact alloc2_new _ _ _
  have hlb : b < w.heap.size := hT.wi b hT.inB
  have hlh : gh < w.heap.size := World.block_lt_of_cell? _ _ cH
  have c1 : ∀ q, (wa.drewN q).cell? ⟨w.heap.size, 0, none⟩ = some (.pointer (some ⟨b, 0, none⟩)) := fun q => (boxed_more b1 (More.drewN wa q)).cell
  have c2 : ∀ q, (wa.drewN q).cell? ⟨w.heap.size + 1, 0, none⟩ = some (.int .i64 i) := fun q => (boxed_more b2 (More.drewN wa q)).cell
  have c3 : ∀ q, (wa.drewN q).cell? ⟨b, 1, none⟩ = some (.slice (some ⟨gh, 0, none⟩) hs.length ch) := fun q => ((hma.trans (More.drewN wa q)).cell hlb).trans kb2
  have c4 : ∀ q, (wa.drewN q).cell? ⟨gh, i, none⟩ = some (.int .u64 a) := fun q => ((hma.trans (More.drewN wa q)).cell hlh).trans cH
  have HT := Hid.mk (And.intro hT (And.intro hma (And.intro b1 b2)))
  have HF := Hid.mk (And.intro h0 (And.intro hne (And.intro hcd (And.intro hfd (And.intro hDd hf)))))
  have HM := Hid.mk hm
  have hwi : IntKind.i64.wrap ((i : Int) + 1) = (i : Int) + 1 := by rw [IntKind.wrap_i64]; omega
  clear hT hma b1 b2 hch kb1 kb2 kb3 cH h0 hne hcd hfd hDd hf ha hm
  refine callsIn_of_wp_marks Try.func68 rfl trivial ?_ rfl
  simp only [Try.ntmps68, List.size_toArray, List.length_cons, List.length_nil, Nat.reduceAdd, Nat.reduceSub, Array.replicate_succ, Array.replicate_zero, List.push_toArray, List.append_toArray, List.nil_append, List.cons_append]
  gi_wp2
  refine region_detN 8 5 1 [.pointer (some ⟨b, 0, none⟩), .pointer (some ⟨b, 0, none⟩), .pointer (some ⟨b, 0, none⟩), .pointer (some ⟨b, 1, none⟩), .slice (some ⟨gh, 0, none⟩) hs.length ch, .int .i64 i, .pointer (some ⟨gh, i, none⟩), .int .u64 a]
    { tmps := #[.pointer (some ⟨b, 0, none⟩), .int .i64 i, .pointer (some ⟨w.heap.size, 0, none⟩), .pointer (some ⟨w.heap.size + 1, 0, none⟩), undef, .pointer (some ⟨b, 0, none⟩), .pointer (some ⟨b, 0, none⟩), .pointer (some ⟨b, 0, none⟩), .pointer (some ⟨b, 1, none⟩), .slice (some ⟨gh, 0, none⟩) hs.length ch, .int .i64 i, .pointer (some ⟨gh, i, none⟩), .int .u64 a, undef, undef, undef, undef, undef, undef, undef, undef, undef, undef, undef, undef, undef, undef, undef, undef, undef, undef], defers := [] }
    (fun w' => ∃ q, w' = wa.drewN q) (by kernel_rfl) (detN_of (by kernel_rfl)) (by kernel_rfl) (Nat.le_of_ble_eq_true (by kernel_rfl)) ⟨1, rfl⟩ ?step ?fin
  case step =>
    rintro e he w' ⟨q, rfl⟩
    have c1 := c1 q
    have c2 := c2 q
    have c3 := c3 q
    have c4 := c4 q
    rcases (show e = 0 ∨ e = 1 ∨ e = 2 ∨ e = 3 ∨ e = 4 ∨ e = 5 ∨ e = 6 ∨ e = 7 by omega) with rfl | rfl | rfl | rfl | rfl | rfl | rfl | rfl
    all_goals
      refine wpOpIn_step rfl (fun K hK => ?_)
      go_simp
      exact hK _ _ ⟨rfl, rfl, q, rfl⟩
  case fin =>
    rintro w' ⟨q, rfl⟩
    have hmq := More.trans HT.out.2.1 (More.drewN wa q)
    have hsq : (wa.drewN q).heap.size = w.heap.size + 1 + 1 := hsa
    have hb1 := boxed_more HT.out.2.2.1 (More.drewN wa q)
    have hb2 := boxed_more HT.out.2.2.2 (More.drewN wa q)
    have HQ := Hid.mk (And.intro hmq (And.intro hb1 (And.intro hb2 hsq)))
    clear hmq hsq hb1 hb2 c1 c2 c3 c4 hwa
    generalize wa.drewN q = wb at *
    refine wpOpIn_step rfl (fun K hK => ?_)
    go_simp
    refine ⟨trivial, (from_call _ _ _ _).mono ?_⟩
    rintro e w1 ⟨rfl, hw1⟩
    refine hK _ _ ?_
    clear hK
    unfold tailIn
    have hsb := HQ.out.2.2.2
    have hm1 : More wb w1 := by rw [hw1]; exact ((Below.refl _ wb).alloc (Nat.le_refl _) _).alloc (by simp) _
    have hs1 : w1.heap.size = w.heap.size + 1 + 1 + 1 + 1 := by rw [hw1]; simp [hsb]
    have d1 : Boxed w1 (w.heap.size + 1 + 1) 95 (.pointer (some ⟨b, 0, none⟩)) := by rw [hw1, ← hsb]; exact alloc2_old _ _ _
    have d2 : Boxed w1 (w.heap.size + 1 + 1 + 1) 80 (.int .u64 a) := by rw [hw1, ← hsb]; exact alloc2_new _ _ _
    have hmw : More w w1 := More.trans HQ.out.1 hm1
    have e1 := boxed_more HQ.out.2.1 hm1
    have e2 := boxed_more HQ.out.2.2.1 hm1
    have hT1 := HT.out.1.more hmw
    have HW := Hid.mk (And.intro hmw (And.intro hT1 (And.intro d1 (And.intro d2 (And.intro e1 e2)))))
    rw [hsb]
    clear hw1 hm1 d1 d2 hmw e1 e2 hT1 hsb HQ
    have hlb1 : b < w1.heap.size := by omega
    have hdl : ∀ q, D q → q < w1.heap.size := HW.out.2.1.wi
    gi_wp2
    refine range_set rfl h1 (gf := 74) (lb := #[.pointer (some ⟨w.heap.size + 1 + 1, 0, none⟩), .pointer (some ⟨w.heap.size + 1 + 1 + 1, 0, none⟩)]) rfl trivial (enters_of Try.func74 (by kernel_rfl) rfl)
      (from_in (n - 1) (by omega) (w.heap.size + 1 + 1) (w.heap.size + 1 + 1 + 1) b m a 0 k hk HM.out w1) (Nat.zero_le _) (More.refl w1) (fun _ => rfl)
      (fun pre E V => More w1 V ∧ pre.length ≤ j ∧ ∀ q, q < w1.heap.size → E q)
      (fun c pre E V => c = .ret ∧ Tb V D b vk (.slice (some ⟨gh, 0, none⟩) hs.length ch) (.slice (some ⟨gd, 0, none⟩) m cd) ts hs m (setF f ((a + j) % m) (i + 1)) ∧ Off D w V ∧ ∀ q, q < w1.heap.size → E q)
      (fun s E A A' h k => ⟨Below.trans h.1 (k.below h.2.2), h.2.1, h.2.2⟩)
      (fun c s E A A' h k => ⟨h.1, h.2.1.stay k (fun q hq => h.2.2.2 q (hdl q hq)), h.2.2.1.stay k (fun q hq => h.2.2.2 q (by omega)), h.2.2.2⟩)
      (fun _ _ A h => ⟨boxed_more HW.out.2.2.1 h.1, boxed_more HW.out.2.2.2.1 h.1, _, _, ((HW.out.2.1.more h.1).cells).2.2.1⟩) ⟨More.refl w1, Nat.zero_le _, fun _ h => h⟩
      (fun x => { tmps := #[.pointer (some ⟨b, 0, none⟩), .int .i64 i, .pointer (some ⟨w.heap.size, 0, none⟩), .pointer (some ⟨w.heap.size + 1, 0, none⟩), .int .i64 x, .pointer (some ⟨b, 0, none⟩), .pointer (some ⟨b, 0, none⟩), .pointer (some ⟨b, 0, none⟩), .pointer (some ⟨b, 1, none⟩), .slice (some ⟨gh, 0, none⟩) hs.length ch, .int .i64 i, .pointer (some ⟨gh, i, none⟩), .int .u64 a, .func (.func 74) #[] #[.pointer (some ⟨w.heap.size + 1 + 1, 0, none⟩), .pointer (some ⟨w.heap.size + 1 + 1 + 1, 0, none⟩)], .int .i64 x, undef, undef, undef, undef, undef, undef, undef, undef, undef, undef, undef, undef, undef, undef, undef, undef], defers := [] }) ?assign ?body ?done ?stop
    case assign =>
      intro l2 x V K' hK'
      gi_wp2
      exact hK'
    case body =>
      rintro l2 pre x V E ⟨c, hc, hSp⟩ ⟨hM, hlen, hE⟩ hwE hlw hszV hlenN
      obtain ⟨_, rfl, hcl⟩ := prb_next hSp
      clear hSp
      have hpm : (a + pre.length) % m < m := Nat.mod_lt _ (by omega)
      have hTV := HW.out.2.1.more hM
      obtain ⟨kc1, _, kc3, _⟩ := hTV.cells
      have cd1 := (hM.cell (World.block_lt_of_cell? _ _ ((HW.out.2.1.more (More.refl w1)).cells).1))
      have cl := (boxed_more HW.out.2.2.2.2.1 hM).cell
      have ci := (boxed_more HW.out.2.2.2.2.2 hM).cell
      have hslot := (hTV.slot (by omega))
      obtain ⟨gd2, cd2, hvd, _, hcd, hfd⟩ := hslot
      simp only [Value.slice.injEq, Option.some.injEq, Addr.mk.injEq, and_true, true_and] at hvd
      obtain ⟨rfl, rfl⟩ := hvd
      have cf := hcd _ hpm
      have ff := hfd ((a + pre.length) % m)
      have HV := Hid.mk (And.intro hM (And.intro hTV hE))
      have hff := HF.out.2.2.2.2.2 ((a + pre.length) % m)
      have HZ := Hid.mk (And.intro HF.out.1 (And.intro (HF.out.2.1 pre.length) HF.out.2.2.2.2.1))
      clear kc1 cd1 hcd hfd hTV hM hE HF
      by_cases hlt : pre.length < j
      · have hnz := HZ.out.2.1 hlt
        obtain ⟨p, hp⟩ : ∃ p, (a + pre.length) % m = p := ⟨_, rfl⟩
        rw [hp] at cf ff hpm hnz hff ⊢
        obtain ⟨v, hv⟩ : ∃ v, f p = v := ⟨_, rfl⟩
        rw [hv] at cf hnz hff
        have hz : ((v : Int) == 0) = false := beq_eq_false_iff_ne.2 (by omega)
        have hz2 : ¬ (v : Int) = 0 := by omega
        clear hv hp ci
        gi_wp2
        exact ⟨E, Turn.refl _ _ _, HV.out.1, by rw [List.length_append, List.length_singleton]; omega, HV.out.2.2⟩
      · obtain rfl : pre.length = j := by omega
        have hnz := HZ.out.1
        obtain ⟨p, hp⟩ : ∃ p, (a + pre.length) % m = p := ⟨_, rfl⟩
        rw [hp] at cf ff hpm hnz hff ⊢
        rw [hnz] at cf
        have k1 : ∀ q, (V.drewN q).cell? ⟨w.heap.size, 0, none⟩ = some (.pointer (some ⟨b, 0, none⟩)) := fun q => cl
        have k2 : ∀ q, (V.drewN q).cell? ⟨w.heap.size + 1, 0, none⟩ = some (.int .i64 i) := fun q => ci
        have k3 : ∀ q, (V.drewN q).cell? ⟨b, 2, none⟩ = some (.slice (some ⟨gd, 0, none⟩) m cd) := fun q => kc3
        clear hp
        gi_wp2
        refine region_detN 8 23 1 [.pointer (some ⟨b, 0, none⟩), .pointer (some ⟨b, 0, none⟩), .pointer (some ⟨b, 2, none⟩), .slice (some ⟨gd, 0, none⟩) m cd, .int .i64 p, .int .i64 i, .int .i64 ((i : Int) + 1), .pointer (some ⟨gd, p, none⟩)]
          { tmps := #[.pointer (some ⟨b, 0, none⟩), .int .i64 i, .pointer (some ⟨w.heap.size, 0, none⟩), .pointer (some ⟨w.heap.size + 1, 0, none⟩), .int .i64 p, .pointer (some ⟨b, 0, none⟩), .pointer (some ⟨b, 0, none⟩), .pointer (some ⟨b, 0, none⟩), .pointer (some ⟨b, 1, none⟩), .slice (some ⟨gh, 0, none⟩) hs.length ch, .int .i64 i, .pointer (some ⟨gh, i, none⟩), .int .u64 a, .func (.func 74) #[] #[.pointer (some ⟨w.heap.size + 1 + 1, 0, none⟩), .pointer (some ⟨w.heap.size + 1 + 1 + 1, 0, none⟩)], .int .i64 p, .pointer (some ⟨b, 0, none⟩), .pointer (some ⟨b, 0, none⟩), .pointer (some ⟨b, 2, none⟩), .slice (some ⟨gd, 0, none⟩) m cd, .int .i64 p, .pointer (some ⟨gd, p, none⟩), .int .i64 0, .bool true, .pointer (some ⟨b, 0, none⟩), .pointer (some ⟨b, 0, none⟩), .pointer (some ⟨b, 2, none⟩), .slice (some ⟨gd, 0, none⟩) m cd, .int .i64 p, .int .i64 i, .int .i64 ((i : Int) + 1), .pointer (some ⟨gd, p, none⟩)], defers := [] }
          (fun w' => ∃ q, w' = V.drewN q) (by kernel_rfl) (detN_of (by kernel_rfl)) (by kernel_rfl) (Nat.le_of_ble_eq_true (by kernel_rfl)) ⟨1, rfl⟩ ?step2 ?fin2
        case step2 =>
          rintro e he w' ⟨q, rfl⟩
          have k1 := k1 q
          have k2 := k2 q
          have k3 := k3 q
          rcases (show e = 0 ∨ e = 1 ∨ e = 2 ∨ e = 3 ∨ e = 4 ∨ e = 5 ∨ e = 6 ∨ e = 7 by omega) with rfl | rfl | rfl | rfl | rfl | rfl | rfl | rfl
          all_goals
            refine wpOpIn_step rfl (fun K hK => ?_)
            go_simp
            exact hK _ _ ⟨rfl, rfl, q, rfl⟩
        case fin2 =>
          rintro w' ⟨q, rfl⟩
          have hTq := HV.out.2.1.more (More.drewN V q)
          have hst := hTq.set p (i + 1)
          have hoff : Off D w ((V.drewN q).setCell ⟨gd, p, none⟩ (.int .i64 ((i : Int) + 1))) := (Off.of_more (HW.out.1.trans (HV.out.1.mono (by omega)))).trans ((Off.setCell (p := ⟨gd, p, none⟩) (V.drewN q) HZ.out.2.2 _).drawn : Off D V _) (fun _ h => .inl h)
          have htu : Turn 0 E E V ((V.drewN q).setCell ⟨gd, p, none⟩ (.int .i64 ((i : Int) + 1))) := ((Turn.refl 0 E (V.drewN q)).drawn).setCell (p := ⟨gd, p, none⟩) (Nat.zero_le _) (HV.out.2.2 _ (hdl _ HZ.out.2.2)) _
          have HO := Hid.mk (And.intro htu (And.intro hst hoff))
          have ff2 : ∀ q, (V.drewN q).frozen? ⟨gd, p, none⟩ = false := fun q => ff
          have cf2 : ∀ q, (V.drewN q).cell? ⟨gd, p, none⟩ = some (.int .i64 0) := fun q => cf
          have ff2 := ff2 q
          have cf2 := cf2 q
          clear htu hst hoff hTq k1 k2 k3
          refine wpOpIn_step rfl (fun K hK => ?_)
          go_simp
          refine hK _ _ ?_
          clear hK
          unfold tailIn
          gi_wp2
          exact ⟨E, HO.out.1, rfl, HO.out.2.1, HO.out.2.2, HV.out.2.2⟩
    case done =>
      rintro D2 ys E V hD hED rfl ⟨hM, hlen, hE⟩ _ _ _
      rw [prb_len] at hlen
      omega
    case stop =>
      rintro D2 cc pre E V hD hED _ ⟨rfl, hT2, hO2, hE⟩ hwE _ hKD
      have HO := Hid.mk (And.intro hT2 (And.intro hO2 hE))
      clear hT2 hO2 hE
      gi_wp2
      refine leaves_set (C := E) (B := w1.heap.size) (.cons (by omega) hKD (fun _ h => by cases h) .nil) (one_mark hED) fun w' hw' _ => ?_
      exact ⟨_, results_none rfl _ _ _, ⟨_, rfl⟩, HO.out.1.stay hw' (fun q hq => HO.out.2.2 q (hdl q hq)), HO.out.2.1.stay hw' (fun q hq => HO.out.2.2 q (by omega))⟩
end Go.Proofs.Ytiiflegfbieblaa
