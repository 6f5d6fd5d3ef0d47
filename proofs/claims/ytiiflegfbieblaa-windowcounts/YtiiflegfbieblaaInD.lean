/-
  intern: a key is looked for.
-/
import Derived.Test.YtiiflegfbieblaaInM
import Derived.Test.YtiiflegfbieblaaQuietRound
namespace Go.Proofs.Ytiiflegfbieblaa
open Go.RowKit Go.Shelf
attribute [local go_sem] Oper.semAt_some

theorem Turn.box {E : Nat → Prop} {V : World} {q B : Nat} (hE : E B) (v : Value) : Turn 0 E E V ((V.drewN q).setCell ⟨B, 0, none⟩ v) := ((Turn.refl 0 E (V.drewN q)).drawn).setCell (p := ⟨B, 0, none⟩) (Nat.zero_le _) hE v
theorem hmap_get (ts : List (List UInt8)) {i : Nat} (h : i < ts.length) : (ts.map hashN).getD i 0 = hashN (ts.getD i []) := by
  rw [List.getD_eq_getElem?_getD, List.getD_eq_getElem?_getD, List.getElem?_map, List.getElem?_eq_getElem h]; rfl

set_option maxRecDepth 1000000 in
set_option maxHeartbeats 8000000 in
theorem in_find (n : Nat) (hn : 16 ≤ n) (w : World) (D : Nat → Prop) (b m k : Nat) (vk vh vd : Value) (ts : List (List UInt8)) (s : List UInt8) (f : Nat → Nat) (hT : Tb w D b vk vh vd ts (ts.map hashN) m f) (hS : Slt m (hOf ts) f ts.length) (hd : ts.Nodup) (hN : ts.length ≤ 1000000) (hk : k ≤ 40) (hm : m = 2 ^ k) :
    CallsIn Fence.wide n Try.prog 53 #[.pointer (some ⟨b, 0, none⟩), .string (bs s), .int .u64 (hashN s)] w fun e w' => e = .returned (.int .i64 (fnd ts s)) ∧ More w w' := by
  have h1 : 1 ≤ n := by omega
  have hm1 : 1 ≤ m := by rw [hm]; exact Nat.two_pow_pos k
  obtain ⟨gd, cd, hvd, hDd, hcd, _⟩ := hT.slot (by omega)
  subst hvd
  have hlb : b < w.heap.size := hT.wi b hT.inB
  obtain ⟨wa, hwa⟩ : ∃ wa, (((w.alloc (.cells #[.pointer (some ⟨b, 0, none⟩)] 95)).alloc (.cells #[.string (bs s)] 9)).alloc (.cells #[.int .u64 (hashN s)] 80)).alloc (.cells #[.int .i64 0] 3) = wa := ⟨_, rfl⟩
  have hma : More w wa := by rw [← hwa]; exact More.trans (More.trans (More.trans (more_alloc _ _) (more_alloc _ _)) (more_alloc _ _)) (more_alloc _ _)
  have hsa : wa.heap.size = w.heap.size + 1 + 1 + 1 + 1 := by rw [← hwa]; simp
  have b1 : Boxed wa w.heap.size 95 (.pointer (some ⟨b, 0, none⟩)) := by
    rw [← hwa]
    exact (heap_alloc_old _ _ (by simp <;> omega)).trans ((heap_alloc_old _ _ (by simp <;> omega)).trans (alloc2_old _ _ _))
  have b2 : Boxed wa (w.heap.size + 1) 9 (.string (bs s)) := by
    rw [← hwa]
    exact (heap_alloc_old _ _ (by simp <;> omega)).trans ((heap_alloc_old _ _ (by simp <;> omega)).trans (alloc2_new _ _ _))
  have b3 : Boxed wa (w.heap.size + 1 + 1) 80 (.int .u64 (hashN s)) := by
    rw [← hwa]
    have := alloc2_old ((w.alloc (.cells #[.pointer (some ⟨b, 0, none⟩)] 95)).alloc (.cells #[.string (bs s)] 9)) (.cells #[.int .u64 (hashN s)] 80) (.cells #[.int .i64 0] 3)
    rw [World.size_alloc, World.size_alloc] at this
    exact this
  have b4 : Boxed wa (w.heap.size + 1 + 1 + 1) 3 (.int .i64 0) := by
    rw [← hwa]
    have := alloc2_new ((w.alloc (.cells #[.pointer (some ⟨b, 0, none⟩)] 95)).alloc (.cells #[.string (bs s)] 9)) (.cells #[.int .u64 (hashN s)] 80) (.cells #[.int .i64 0] 3)
    rw [World.size_alloc, World.size_alloc] at this
    exact this
  have c1 := b1.cell
  have c3 := b3.cell
  have HT := Hid.mk (And.intro hT (And.intro hma (And.intro b1 (And.intro b2 (And.intro b3 b4)))))
  have HF := Hid.mk (And.intro hcd (And.intro hDd (And.intro hS hd)))
  have HM := Hid.mk hm
  clear hT hma b1 b2 b3 b4 hcd hDd hS hm hd
  refine callsIn_of_wp_marks Try.func53 rfl trivial ?_ rfl
  simp only [Try.ntmps53, List.size_toArray, List.length_cons, List.length_nil, Nat.reduceAdd, Nat.reduceSub, Array.replicate_succ, Array.replicate_zero, List.push_toArray, List.append_toArray, List.nil_append, List.cons_append]
  gi_wp2_with (refine ⟨trivial, ?_⟩; gi_at_call 67; refine (from_call _ _ _ _).mono ?_; rintro e w' ⟨rfl, hw'⟩; subst w')
  obtain ⟨w1, hw1⟩ : ∃ w1, (wa.alloc (.cells #[.pointer (some ⟨b, 0, none⟩)] 95)).alloc (.cells #[.int .u64 (hashN s)] 80) = w1 := ⟨_, rfl⟩
  rw [hw1]
  have hsb := hsa
  have hm2 : More wa w1 := by rw [← hw1]; exact ((Below.refl _ wa).alloc (Nat.le_refl _) _).alloc (by simp) _
  have hs1 : w1.heap.size = w.heap.size + 1 + 1 + 1 + 1 + 1 + 1 := by rw [← hw1]; simp [hsb]
  have d1 : Boxed w1 (w.heap.size + 1 + 1 + 1 + 1) 95 (.pointer (some ⟨b, 0, none⟩)) := by rw [← hw1, ← hsb]; exact alloc2_old _ _ _
  have d2 : Boxed w1 (w.heap.size + 1 + 1 + 1 + 1 + 1) 80 (.int .u64 (hashN s)) := by rw [← hw1, ← hsb]; exact alloc2_new _ _ _
  have hmw : More w w1 := More.trans HT.out.2.1 hm2
  have e1 := boxed_more HT.out.2.2.1 hm2
  have e2 := boxed_more HT.out.2.2.2.1 hm2
  have e3 := boxed_more HT.out.2.2.2.2.1 hm2
  have e4 := boxed_more HT.out.2.2.2.2.2 hm2
  have hT1 := HT.out.1.more hmw
  have HW := Hid.mk (And.intro hmw (And.intro hT1 (And.intro d1 (And.intro d2 (And.intro e1 (And.intro e2 (And.intro e3 e4)))))))
  have hlb1 : b < w1.heap.size := by omega
  have hdl : ∀ q, D q → q < w1.heap.size := hT1.wi
  clear hw1 hm2 d1 d2 hmw e1 e2 e3 e4 hT1 hsb HT c1 c3 hwa
  try rw [hsa]
  refine range_set rfl h1 (gf := 74) (lb := #[.pointer (some ⟨w.heap.size + 1 + 1 + 1 + 1, 0, none⟩), .pointer (some ⟨w.heap.size + 1 + 1 + 1 + 1 + 1, 0, none⟩)]) rfl trivial (enters_of Try.func74 (by kernel_rfl) rfl)
    (from_in (n - 1) (by omega) (w.heap.size + 1 + 1 + 1 + 1) (w.heap.size + 1 + 1 + 1 + 1 + 1) b m (hashN s) 0 k hk HM.out w1) (Nat.zero_le _) (More.refl w1) (fun _ => rfl)
    (fun pre E V => More w1 V ∧ Past ts m f s pre.length ∧ ∀ q, q < w1.heap.size → E q)
    (fun c pre E V => c = .ret ∧ Boxed V (w.heap.size + 1 + 1 + 1) 3 (.int .i64 (fnd ts s)) ∧ More w V ∧ ∀ q, q < w1.heap.size → E q)
    (fun s E A A' h k => ⟨Below.trans h.1 (k.below h.2.2), h.2.1, h.2.2⟩)
    (fun c s E A A' h k => ⟨h.1, k.boxed h.2.1 (h.2.2.2 _ (by omega)), Below.trans h.2.2.1 (k.below fun q hq => h.2.2.2 q (by omega)), h.2.2.2⟩)
    (fun _ _ A h => ⟨boxed_more HW.out.2.2.1 h.1, boxed_more HW.out.2.2.2.1 h.1, _, _, ((HW.out.2.1.more h.1).cells).2.2.1⟩) ⟨More.refl w1, Past.zero ts m f s, fun _ h => h⟩
    (fun x => { tmps := #[.pointer (some ⟨b, 0, none⟩), .string (bs s), .int .u64 (hashN s), .pointer (some ⟨w.heap.size, 0, none⟩), .pointer (some ⟨w.heap.size + 1, 0, none⟩), .pointer (some ⟨w.heap.size + 1 + 1, 0, none⟩), .pointer (some ⟨w.heap.size + 1 + 1 + 1, 0, none⟩), .int .i64 x, undef, .pointer (some ⟨b, 0, none⟩), .int .u64 (hashN s), .func (.func 74) #[] #[.pointer (some ⟨w.heap.size + 1 + 1 + 1 + 1, 0, none⟩), .pointer (some ⟨w.heap.size + 1 + 1 + 1 + 1 + 1, 0, none⟩)], .int .i64 x, undef, undef, undef, undef, undef, undef, undef, undef, undef, undef, undef, undef, undef, undef, undef, undef, undef, undef, undef, undef, undef, undef, undef, undef, undef, undef, undef, undef, undef, undef, undef, undef, undef], defers := [] }) ?assign ?body ?done ?stop
  case assign =>
    intro l2 x V K' hK'
    gi_wp2
    exact hK'
  case body =>
    rintro l2 pre x V E ⟨c, hc, hSp⟩ ⟨hM, hP, hE⟩ hwE hlw hszV hlenN
    obtain ⟨_, rfl, hcl⟩ := prb_next hSp
    clear hSp
    have hpm : (hashN s + pre.length) % m < m := Nat.mod_lt _ (by omega)
    have hTV := HW.out.2.1.more hM
    obtain ⟨kc1, kc2, kc3, _⟩ := hTV.cells
    have cl := (boxed_more HW.out.2.2.2.2.1 hM).cell
    have cs := (boxed_more HW.out.2.2.2.2.2.1 hM).cell
    have ch := (boxed_more HW.out.2.2.2.2.2.2.1 hM).cell
    have br := (boxed_more HW.out.2.2.2.2.2.2.2 hM)
    have cr := br.cell
    have fr := br.frozen
    obtain ⟨gd2, cd2, hvd, _, hcd, hfd⟩ := hTV.slot (by omega)
    simp only [Value.slice.injEq, Option.some.injEq, Addr.mk.injEq, and_true, true_and] at hvd
    obtain ⟨rfl, rfl⟩ := hvd
    have cf := hcd _ hpm
    have hmV : More w V := HW.out.1.trans (hM.mono (by omega))
    have HV := Hid.mk (And.intro hM (And.intro hTV (And.intro hE (And.intro br hmV))))
    have HP := Hid.mk (And.intro hP (And.intro (@Past.none ts m pre.length f s HF.out.2.2.1 hP) (fun v h0 he => @Past.some ts m pre.length f s HF.out.2.2.1 HF.out.2.2.2 v h0 he)))
    have hle := HF.out.2.2.1.le ((hashN s + pre.length) % m)
    obtain ⟨p, hp⟩ : ∃ p, (hashN s + pre.length) % m = p := ⟨_, rfl⟩
    have HX := Hid.mk hp
    rw [hp] at cf hpm hle ⊢
    clear hp hcd hfd hP hM hE br hmV
    have fin : ∀ (R : Int) (q : Nat), fnd ts s = R → Boxed ((V.drewN q).setCell ⟨w.heap.size + 1 + 1 + 1, 0, none⟩ (.int .i64 R)) (w.heap.size + 1 + 1 + 1) 3 (.int .i64 (fnd ts s)) ∧ More w ((V.drewN q).setCell ⟨w.heap.size + 1 + 1 + 1, 0, none⟩ (.int .i64 R)) := fun R q h => by
      rw [h]
      exact ⟨(boxed_more HV.out.2.2.2.1 (More.drewN V q)).set _, (More.trans HV.out.2.2.2.2 (More.drewN V q)).setCell (p := ⟨w.heap.size + 1 + 1 + 1, 0, none⟩) (by show w.heap.size ≤ w.heap.size + 1 + 1 + 1; omega) _⟩
    have hER : E (w.heap.size + 1 + 1 + 1) := HV.out.2.2.1 _ (by omega)
    by_cases h0 : f p = 0
    · have HR := Hid.mk (show fnd ts s = -1 from HP.out.2.1 (.inr (by rw [HX.out]; exact h0)))
      rw [h0] at cf
      clear hTV kc1 kc2 h0
      have HI := Hid.mk fin
      clear fin
      gi_wp2
      refine wpIn_region_quiet_round (by kernel_rfl) (by kernel_rfl) (by kernel_rfl) ?_
      repeat (go_big_quiet_step (fail))
      refine wpQuiet_nil ?_
      rintro _ ⟨nq, rfl⟩
      gi_wp2
      have h2 := HI.out (-1) nq HR.out
      exact ⟨E, Turn.box hER _, rfl, h2.1, h2.2, HV.out.2.2.1⟩
    · obtain ⟨v, hv⟩ : ∃ v, f p = v + 1 := ⟨f p - 1, by omega⟩
      have hvl : v < ts.length := by omega
      obtain ⟨gh, cph, rfl, _, hch⟩ := hTV.hash (by rw [List.length_map]; omega)
      obtain ⟨gk, cpk, rfl, _, hck⟩ := hTV.key (by omega)
      rw [List.length_map] at kc2 hch
      have cH := hch v hvl
      rw [hmap_get ts hvl] at cH
      have cK := hck v hvl
      have hE := bs_neq (ts.getD v []) s
      have HS := Hid.mk (HP.out.2.2 v (by rw [HX.out]; exact hv))
      have HN := Hid.mk (fun (he : ts.getD v [] ≠ s) => HP.out.1.next (by rw [HX.out]; exact hv) he)
      rw [hv, Int.natCast_add] at cf
      have cf : V.cell? ⟨gd, p, none⟩ = some (.int .i64 ((v : Int) + 1)) := cf
      have hw1 : IntKind.i64.wrap ((v : Int) + 1 - 1) = v := by rw [IntKind.wrap_i64]; omega
      have hv0 : decide ((v : Int) < 0) = false := decide_eq_false (by omega)
      obtain ⟨y, hy⟩ : ∃ y, ts.getD v [] = y := ⟨_, rfl⟩
      rw [hy] at cH cK hE HS HN
      have hvl2 : (v : Int) < (ts.length : Int) := by omega
      have HI := Hid.mk fin
      clear hTV hch hck h0 hv hle hy HP HX fin
      obtain ⟨X, hX⟩ : ∃ X, hashN y = X := ⟨_, rfl⟩
      have HXX := Hid.mk hX
      rw [hX] at cH
      clear hX
      by_cases hH : X = hashN s
      · have hxx : ((X : Int) == (hashN s : Int)) = true := by rw [hH]; exact beq_self_eq_true _
        have hxe : (X : Int) = (hashN s : Int) := by rw [hH]
        clear hH
        by_cases hys : y = s
        · have HR := Hid.mk (HS.out hys).2
          rw [decide_eq_true hys] at hE
          have hE2 : (bs y).toList = (bs s).toList := by rw [hys]
          clear hys HS HN
          gi_wp2
          refine wpIn_region_quiet_round (by kernel_rfl) (by kernel_rfl) (by kernel_rfl) ?_
          repeat (go_big_quiet_step (fail))
          refine wpQuiet_nil ?_
          rintro _ ⟨nq, rfl⟩
          gi_wp2
          have h2 := HI.out v nq HR.out
          exact ⟨E, Turn.box hER _, rfl, h2.1, h2.2, HV.out.2.2.1⟩
        · have HR := Hid.mk (HN.out hys)
          rw [decide_eq_false hys] at hE
          have hE2 : ¬ (bs y).toList = (bs s).toList := by rw [bs_list, bs_list]; exact hys
          clear hys HS HN
          gi_wp2
          refine wpIn_region_quiet_round (by kernel_rfl) (by kernel_rfl) (by kernel_rfl) ?_
          repeat (go_big_quiet_step (fail))
          refine wpQuiet_nil ?_
          rintro _ ⟨nq, rfl⟩
          gi_wp2
          exact ⟨E, (Turn.refl 0 E (V.drewN nq)).drawn, More.trans HV.out.1 (More.drewN V nq), by rw [List.length_append, List.length_singleton]; exact HR.out, HV.out.2.2.1⟩
      · have hxx : ((X : Int) == (hashN s : Int)) = false := beq_eq_false_iff_ne.2 (by omega)
        have hxe : ¬ (X : Int) = (hashN s : Int) := by omega
        have HR := Hid.mk (HN.out (fun e => hH (by rw [← HXX.out, e])))
        clear hH HS HN
        gi_wp2
        refine wpIn_region_quiet_round (by kernel_rfl) (by kernel_rfl) (by kernel_rfl) ?_
        repeat (go_big_quiet_step (fail))
        refine wpQuiet_nil ?_
        rintro _ ⟨nq, rfl⟩
        gi_wp2
        exact ⟨E, (Turn.refl 0 E (V.drewN nq)).drawn, More.trans HV.out.1 (More.drewN V nq), by rw [List.length_append, List.length_singleton]; exact HR.out, HV.out.2.2.1⟩
  case done =>
    rintro D2 ys E V hD hED rfl ⟨hM, hP, hE⟩ hwE _ hKD
    rw [prb_len] at hP
    have HR := Hid.mk (Past.none HF.out.2.2.1 hP (.inl rfl))
    have br := boxed_more HW.out.2.2.2.2.2.2.2 hM
    have HO := Hid.mk (And.intro br (And.intro (HW.out.1.trans (hM.mono (by omega))) hE))
    have cr := br.cell
    have fr := br.frozen
    have hK' := (KeepsOthers.setCell V ⟨w.heap.size + 1 + 1 + 1, 0, none⟩ (.int .i64 (-1))).same D2 _ hKD rfl
    clear hM hP hE br
    gi_wp2
    refine leaves_set (C := E) (B := w1.heap.size) (.cons (by omega) hK' (fun _ h => by cases h) .nil) (one_mark hED) fun w' hw' _ => ?_
    have hb2 := hw'.boxed (HO.out.1.set (.int .i64 (-1))) (HO.out.2.2 _ (by omega))
    have hc := hb2.cell
    refine ⟨_, by simp [results, Try.f53, go_sem, hc]; rfl, by rw [HR.out], ?_⟩
    exact Below.trans (HO.out.2.1.setCell (p := ⟨w.heap.size + 1 + 1 + 1, 0, none⟩) (by show w.heap.size ≤ w.heap.size + 1 + 1 + 1; omega) _) (hw'.below fun q hq => HO.out.2.2 q (by omega))
  case stop =>
    rintro D2 cc pre E V hD hED _ ⟨rfl, hB, hmV, hE⟩ hwE _ hKD
    have HO := Hid.mk (And.intro hB (And.intro hmV hE))
    clear hB hmV hE
    gi_wp2
    refine leaves_set (C := E) (B := w1.heap.size) (.cons (by omega) hKD (fun _ h => by cases h) .nil) (one_mark hED) fun w' hw' _ => ?_
    have hb2 := hw'.boxed HO.out.1 (HO.out.2.2 _ (by omega))
    have hc := hb2.cell
    exact ⟨_, by simp [results, Try.f53, go_sem, hc], rfl, Below.trans HO.out.2.1 (hw'.below fun q hq => HO.out.2.2 q (by omega))⟩
end Go.Proofs.Ytiiflegfbieblaa
