/-
  BlockPlays, walked.
-/
import Derived.Test.YtpmgojnlbmiaeaaBlkLawC
namespace Go.Proofs.Ytpmgojnlbmiaeaa
open Go.RowKit

/-- What is left of a region that draws its order only reads: one walk of the order of the text serves. -/
theorem wpAny_quiet_rest {P : Program} {ops : Array Oper} {Q : Exit → Act → World → Prop} {a : Act} {w : World} {listed : Array Bool} {n : Nat} (k : Nat) {l : List Oper} (hl : ops.toList.drop k = l) (hn : l.length = n) (hs : Region.noSelect ops = true) (hB : Region.lexFrom .any ops n k listed = true)
    (h : wpQuiet P ops (fun w' => ∃ n, w' = w.drewN n) (fun a' => ∀ w', (∃ n, w' = w.drewN n) → Q .normal a' w') l a) : wpAny P .any ops Q n listed a w := by
  subst hn
  refine wpAny_of_quiet (C := fun w' => ∃ n, w' = w.drewN n) (Q := fun a' => ∀ w', (∃ n, w' = w.drewN n) → Q .normal a' w') (fun _ w' hw' h => h w' hw') _ _ _ _ ⟨0, rfl⟩ ?_
  refine wpAnyQ_lex hs l k listed a (fun j => ?_) hB h
  rw [← hl, List.getElem?_drop]
  simp
theorem wrapI (D : Int) (h0 : 0 ≤ D) (h1 : D ≤ 1048576) : IntKind.i64.wrap D = D := by
  rw [IntKind.wrap_i64]; omega
/-- The document's store, new. -/
theorem doc_new (w : World) (base size most : Nat) (hb : base ≤ w.heap.size) (tk : Nat → Bool) (u : Nat → List UInt8) :
    Doc (w.alloc (.cells #[.int .i64 size, .int .i64 most, .slice none 0 0, .slice none 0 0, .int .i64 0] 32)) base w.heap.size size most 0 0 0 (.slice none 0 0) (.slice none 0 0) tk u :=
  ⟨hb, by simp; omega, heap_alloc_new w _, World.ownsRow_nil _ _ _ _, World.ownsRow_nil _ _ _ _⟩

section
variable {w : World} {size most : Int} {v : Value} {n : Nat} {ak ai : Nat → Int} {at_ : Nat → List UInt8}
set_option maxRecDepth 1000000 in
theorem plays_big (h : ActRd w v n ak ai at_) (hn : 60 < n) :
    Calls Try.prog 3 #[.int .i64 size, .int .i64 most, v] w fun e w' => e = .returned (.bool true) ∧ More w w' := by
  obtain ⟨ao, cap, rfl, _⟩ := h.opened
  have hn' : (60 : Int) < (n : Int) := by omega
  clear h
  go_enter Try.func3, Try.ntmps3
  go_wp2_with (go_at_call 6; refine (live_true _).mono ?_; rintro e w5 ⟨rfl, hm⟩; have H5 := Hid.mk hm; clear hm)
  go_ret
  exact ⟨rfl, H5.out⟩
set_option maxHeartbeats 1000000 in
set_option maxRecDepth 1000000 in
theorem plays_bad (h : ActRd w v n ak ai at_) (hn : n ≤ 60) (hb : ¬ (1 ≤ size ∧ size ≤ 65536 ∧ 1 ≤ most ∧ most ≤ 1048576)) :
    Calls Try.prog 3 #[.int .i64 size, .int .i64 most, v] w fun e w' => e = .returned (.bool true) ∧ More w w' := by
  obtain ⟨ao, cap, rfl, _⟩ := h.opened
  have hn' : ¬ (60 : Int) < (n : Int) := by omega
  have hnw := st_New_bad size most hb w
  clear h
  have hor : size < 1 ∨ (¬ size < 1 ∧ 65536 < size) ∨ (¬ size < 1 ∧ ¬ 65536 < size ∧ most < 1) ∨ (¬ size < 1 ∧ ¬ 65536 < size ∧ ¬ most < 1 ∧ 1048576 < most) := by omega
  clear hb
  rcases hor with h1 | ⟨h1, h2⟩ | ⟨h1, h2, h3⟩ | ⟨h1, h2, h3, h4⟩
  all_goals
    go_enter Try.func3, Try.ntmps3
    go_wp2_with (first
      | (go_at_call 7; refine hnw.mono ?_; clear hnw; rintro e w1 ⟨rfl, hw1⟩; subst w1)
      | (go_at_call 6; refine (live_true _).mono ?_; rintro e w5 ⟨rfl, hm⟩; have H5 := Hid.mk hm; clear hm))
    go_ret
    exact ⟨rfl, H5.out⟩
end

set_option maxHeartbeats 8000000 in
set_option maxRecDepth 1000000 in
theorem plays_good (w : World) (S M : Nat) (v : Value) (n : Nat) (ak ai : Nat → Int) (at_ : Nat → List UInt8) (h : ActRd w v n ak ai at_) (hn : n ≤ 60) (h1 : 1 ≤ S) (h2 : S ≤ 65536) (h3 : 1 ≤ M) (h4 : M ≤ 1048576)
    (hid : ∀ k, k < n → -9223372036854775808 ≤ ai k ∧ ai k ≤ 9223372036854775807) :
    Calls Try.prog 3 #[.int .i64 S, .int .i64 M, v] w fun e w' => e = .returned (.bool true) ∧ More w w' := by
  obtain ⟨ao, cap, rfl, hc⟩ := h.opened
  have hn' : ¬ (60 : Int) < (n : Int) := by omega
  have hnw := st_New S M h1 h2 h3 h4 (fun _ => false) (fun _ => []) w
  have HC := Hid.mk (And.intro hc hid)
  clear h hc hid
  go_enter Try.func3, Try.ntmps3
  go_wp2_with (go_at_call 7; refine hnw.mono ?_; clear hnw; rintro e w1 ⟨rfl, hS1, hm1⟩; have H1 := Hid.mk (And.intro hS1 hm1); clear hS1 hm1)
  obtain ⟨x, hx⟩ : ∃ x, w1.heap.size = x := ⟨_, rfl⟩
  have hD0 := doc_new w1 w.heap.size S M H1.out.2.size (fun _ => false) (fun _ => [])
  obtain ⟨w2, hw2⟩ : ∃ w2, w1.alloc (.cells #[.int .i64 S, .int .i64 M, .slice none 0 0, .slice none 0 0, .int .i64 0] 32) = w2 := ⟨_, rfl⟩
  have hB0 : Both w2 w.heap.size w.heap.size x S M 0 (fun _ => false) (fun _ => []) (fun _ => []) := ⟨by rw [← hw2]; exact H1.out.1.more (more_alloc w1 _), ⟨_, _, by rw [← hw2, ← hx]; exact hD0⟩, fun i hi => by omega⟩
  have hM0 : More w w2 := by rw [← hw2]; exact More.trans H1.out.2 (more_alloc w1 _)
  have HB := Hid.mk (And.intro hB0 hM0)
  clear hB0 hM0 hD0 H1
  rw [hx, hw2]
  clear hw2 hx
  go_loopw [10] (fun iv wr => ∃ (k N : Nat) (tk : Nat → Bool) (tx u : Nat → List UInt8), k ≤ n ∧ N ≤ k ∧ iv = .int .i64 k ∧ Hid (Both wr w.heap.size w.heap.size x S M N tk tx u ∧ More w wr)) (fun iv _ => n - (intOf iv).toNat)
  case atStart => exact ⟨0, 0, _, _, _, Nat.zero_le _, Nat.le_refl _, rfl, HB⟩
  case round =>
    clear HB
    obtain ⟨k, N, tk, tx, u, hk, hNk, rfl, HR⟩ := hrel
    by_cases hlt : k < n
    · obtain ⟨g, o, rfl, hcell⟩ := HC.out.1 k hlt
      obtain ⟨c0, c1, c2⟩ := hcell wr HR.out.2
      obtain ⟨i1, i2⟩ := HC.out.2 k hlt
      clear hcell
      obtain ⟨K, hK⟩ : ∃ K, ak k = K := ⟨_, rfl⟩
      obtain ⟨I, hI⟩ : ∃ I, ai k = I := ⟨_, rfl⟩
      obtain ⟨t, ht⟩ : ∃ t, at_ k = t := ⟨_, rfl⟩
      rw [hK] at c0
      rw [hI] at c1 i1 i2
      rw [ht] at c2
      have hsz : (bs t).size = t.length := bs_size t
      have hda := does_all (HR.out.1.more (More.drewN wr 1)) (by omega) K I i1 i2 t
      obtain ⟨L, hL⟩ : ∃ L, t.length = L := ⟨_, rfl⟩
      rw [hL] at hsz
      clear hK hI ht i1 i2 hL
      by_cases hl : 300 < L
      · clear hda
        go_wp2_with (go_at_call 6; refine (live_true _).mono ?_; rintro e w5 ⟨rfl, hm⟩; have H5 := Hid.mk hm; clear hm)
        go_ret
        exact ⟨rfl, More.trans HR.out.2 H5.out⟩
      · go_wp2_with fail
        refine wp_region_any (by kernel_rfl) ?_
        change wpAny _ _ _ _ _ _ _ (World.drew _)
        refine wpAny_take (i := 0) (v := ?v0) rfl (by kernel_rfl) (by kernel_rfl) (by kernel_rfl) (fun _ _ _ h => h) (Or.inl ⟨by rfl, ?y0⟩) ?_
        case y0 => intro wq; (go_simp) <;> with_reducible rfl
        try simp only [Act.put, List.getElem_toArray, List.getElem_cons_zero, List.setIfInBounds_toArray, List.set_cons_zero, List.set_cons_succ]
        refine wpAny_take (i := 1) (v := ?v1) rfl (by kernel_rfl) (by kernel_rfl) (by kernel_rfl) (fun _ _ _ h => h) (Or.inl ⟨by rfl, ?y1⟩) ?_
        case y1 => intro wq; (go_simp) <;> with_reducible rfl
        try simp only [Act.put, List.getElem_toArray, List.getElem_cons_zero, List.getElem_cons_succ, List.setIfInBounds_toArray, List.set_cons_zero, List.set_cons_succ]
        refine wpAny_take (i := 2) (v := ?v2) rfl (by kernel_rfl) (by kernel_rfl) (by kernel_rfl) (fun _ _ _ h => h) (Or.inl ⟨by rfl, ?y2⟩) ?_
        case y2 => intro wq; (go_simp) <;> with_reducible rfl
        try simp only [Act.put, List.getElem_toArray, List.getElem_cons_zero, List.getElem_cons_succ, List.setIfInBounds_toArray, List.set_cons_zero, List.set_cons_succ]
        refine wpAny_take (i := 3) (v := ?v3) rfl (by kernel_rfl) (by kernel_rfl) (by kernel_rfl) (fun _ _ _ h => h) (Or.inl ⟨by rfl, ?y3⟩) ?_
        case y3 => intro wq; (go_simp) <;> with_reducible rfl
        try simp only [Act.put, List.getElem_toArray, List.getElem_cons_zero, List.getElem_cons_succ, List.setIfInBounds_toArray, List.set_cons_zero, List.set_cons_succ]
        refine wpAny_take (i := 4) (v := ?v4) rfl (by kernel_rfl) (by kernel_rfl) (by kernel_rfl) (fun _ _ _ h => h) (Or.inl ⟨by rfl, ?y4⟩) ?_
        case y4 => intro wq; (go_simp) <;> with_reducible rfl
        try simp only [Act.put, List.getElem_toArray, List.getElem_cons_zero, List.getElem_cons_succ, List.setIfInBounds_toArray, List.set_cons_zero, List.set_cons_succ]
        refine wpAny_ready (rs := [5]) (by kernel_rfl) (by simp) ?_
        refine AllReady.cons rfl (fun K5 hK5 => ?_) AllReady.nil
        go_simp
        refine hK5 _ _ ?_
        clear hK5 K5
        try simp only [Act.put, List.getElem_toArray, List.getElem_cons_zero, List.getElem_cons_succ, List.setIfInBounds_toArray, List.set_cons_zero, List.set_cons_succ]
        refine wpAny_ready (rs := [6]) (by kernel_rfl) (by simp) ?_
        refine AllReady.cons rfl (fun K6 hK6 => ?_) AllReady.nil
        go_simp
        go_wp2_with (go_at_call 8; refine hda.mono ?_; clear hda; rintro e w3 ⟨rfl, ⟨N', tk', tx', u', hN', hBo⟩, hbl⟩; obtain ⟨hle, _, _, _, _⟩ := hBo.prog.facts; have hcn := cnt_le tk' N'; have hus := fun q => sx_Used (hBo.prog.more (More.drewN w3 q)); have hur := fun q => (hBo.more (More.drewN w3 q)).doc.elim fun vt h => h.elim fun vk h => rd_Used h (by omega); have hlf := fun q => sx_Left (hBo.more (More.drewN w3 q)).prog; have hpk := fun q => sx_Peak (hBo.more (More.drewN w3 q)).prog; have hpc := hBo.doc.elim fun vt h => h.elim fun vk h => (wcells5 h.box).2.2.2.2.1; obtain ⟨C, hC⟩ : ∃ C, cnt tk' N' = C := ⟨_, rfl⟩; rw [hC] at hcn; simp only [hC] at hus hur hlf; obtain ⟨D, hD⟩ : ∃ D : Int, (M : Int) - (C : Int) = D := ⟨_, rfl⟩; simp only [hD] at hlf; have hD0 : 0 ≤ D := (by omega); have hD1 : D ≤ 1048576 := (by omega); have hwD := wrapI D hD0 hD1; have H3 := Hid.mk (And.intro hBo (And.intro (Below.trans HR.out.2 ((More.drewN wr 1).mono HR.out.2.size |>.trans hbl)) hN')); clear hBo hbl hN' hC c0 c1 c2)
        try simp only [Act.put, List.getElem_toArray, List.getElem_cons_zero, List.getElem_cons_succ, List.setIfInBounds_toArray, List.set_cons_zero, List.set_cons_succ]
        refine wpAny_quiet_rest (l := ?restL) 7 ?restE ?restN (by kernel_rfl) (by kernel_rfl) ?restQ
        case restE => simp only [List.drop_succ_cons, List.drop_zero]; exact rfl
        case restN => rfl
        repeat (go_big_quiet_step (first | (go_at_call 9; exact Calls.quiet_of (hus _)) | (go_at_call 10; exact Calls.quiet_of_same (hur _)) | (go_at_call 11; exact Calls.quiet_of (hlf _)) | (go_at_call 12; exact Calls.quiet_of_same (hpk _))))
        refine wpQuiet_nil ?_
        intro _ hw'
        obtain ⟨nq, hw''⟩ := hw'
        subst hw''
        go_wp2
        exact ⟨⟨k + 1, N', tk', tx', u', by omega, by have := H3.out.2.2; omega, by go_num, Hid.mk ⟨H3.out.1.more (More.drewN w3 nq), Below.trans H3.out.2.1 ((More.drewN w3 nq).mono H3.out.2.1.size)⟩⟩, by simp [intOf]; omega⟩
    · obtain rfl : k = n := by omega
      clear hlt
      go_wp2
      go_loopw [11] (fun jv wv => ∃ j : Nat, j ≤ N ∧ jv = .int .i64 j ∧ Hid (Both wv w.heap.size w.heap.size x S M N tk tx u ∧ More w wv)) (fun jv _ => N - (intOf jv).toNat)
      case atStart => exact ⟨0, Nat.zero_le _, rfl, HR⟩
      case round =>
        clear HR
        obtain ⟨j, hj, rfl, HV⟩ := hrel
        obtain ⟨vt, vk, hd⟩ := HV.out.1.doc
        obtain ⟨_, _, _, d3, _⟩ := wcells5 hd.box
        obtain ⟨aok, ck, rfl⟩ := shape_any hd.tak
        clear hd
        by_cases hlt : j < N
        · obtain ⟨y, er, hA, hB⟩ := both_read HV.out.1 (by omega) (j : Int) (by omega) (by omega)
          have hA0 := hA wr (More.refl _)
          clear hA
          go_wp2_with (first
            | (go_at_call 13; refine hA0.mono ?_; clear hA0; rintro e w3 ⟨rfl, hQ, hK⟩; have hB1 := hB w3 hQ; have H3 := Hid.mk (Below.trans HV.out.2 hK.below); clear hQ hK hB)
            | (go_at_call 14; refine hB1.mono ?_; clear hB1; rintro e w4 ⟨rfl, hQ, hK⟩; have H4 := Hid.mk (And.intro hQ (Below.trans H3.out hK.below)); clear hQ hK))
          exact ⟨⟨j + 1, by omega, by go_num, H4⟩, by simp [intOf]; omega⟩
        · obtain rfl : j = N := by omega
          have hsi := sx_Size HV.out.1.prog
          go_wp2_with (first
            | (go_at_call 15; refine hsi.mono ?_; clear hsi; rintro e w' ⟨rfl, hw'⟩; subst w')
            | (go_at_call 6; refine (live_true _).mono ?_; rintro e w5 ⟨rfl, hm⟩; have H5 := Hid.mk hm; clear hm))
          go_ret
          exact ⟨rfl, More.trans HV.out.2 H5.out⟩
theorem blockPlays (size most : Int) (v : Value) (n : Nat) (ak ai : Nat → Int) (at_ : Nat → List UInt8) (w : World) (h : ActRd w v n ak ai at_) (hid : ∀ k, k < n → -9223372036854775808 ≤ ai k ∧ ai k ≤ 9223372036854775807) :
    Calls Try.prog 3 #[.int .i64 size, .int .i64 most, v] w fun e w' => e = .returned (.bool true) ∧ More w w' := by
  by_cases hn : 60 < n
  · exact plays_big h hn
  · by_cases hb : 1 ≤ size ∧ size ≤ 65536 ∧ 1 ≤ most ∧ most ≤ 1048576
    · obtain ⟨S, rfl⟩ : ∃ S : Nat, size = S := ⟨size.toNat, by omega⟩
      obtain ⟨M, rfl⟩ : ∃ M : Nat, most = M := ⟨most.toNat, by omega⟩
      exact plays_good w S M v n ak ai at_ h (by omega) (by omega) (by omega) (by omega) (by omega) hid
    · exact plays_bad h (by omega) hb
end Go.Proofs.Ytpmgojnlbmiaeaa
