/-
  vocab's Right; the document's Marks, ID, Wrong.
  vocab: the table of a vocabulary; Len, ID, Has, Word.
  vocab: take, Add.
-/
import Derived.Test.YtiiflegfbieblaaMathA
import Derived.Test.YtiiflegfbieblaaInG
namespace Go.Proofs.Ytiiflegfbieblaa
open Go.RowKit Go.Shelf

/-- A row of texts that has just been laid. -/
theorem SRd.lit {W : World} {cur : Array Value} {ts : List (List UInt8)} {n : Nat} (hn : n = ts.length) (hc : cur.toList = strs ts) (h63 : ts.length ≤ 1000) : SRd (W.alloc (.cells cur 9)) (.slice (some ⟨W.heap.size, 0, none⟩) n n) ts := by
  subst hn
  have hs : cur.size = ts.length := by rw [← Array.length_toList, hc, strs_len]
  refine ⟨0, by rw [strs_len, Nat.mul_one], .inr ⟨W.heap.size, ts.length, cur, rfl, Nat.zero_le _, heap_alloc_new W _, Nat.le_refl _, by unfold maxLen; omega, by rw [Nat.mul_one]; exact hs, ?_⟩⟩
  rw [Nat.mul_one, hc, ← strs_len, List.take_length]
theorem getD_take {ts : List (List UInt8)} {j k : Nat} (h : j < k) : (ts.take k).getD j [] = ts.getD j [] := by simp [List.getD, h]
theorem ARd.take {w : World} {ts : List (List UInt8)} {g o cap k : Nat} {v : Value} (h : ARd w v ts) (e : v = .slice (some ⟨g, o, none⟩) ts.length cap) (hk : k ≤ ts.length) (c : Nat) : ARd w (.slice (some ⟨g, o, none⟩) k c) (ts.take k) := by
  rcases h with ⟨h1, ao, ca, h2⟩ | ⟨g', o', ca, h1, h2⟩
  · subst h1
    simp at hk
    subst hk
    exact .inl ⟨rfl, _, _, rfl⟩
  · rw [e] at h1
    simp only [Value.slice.injEq, Option.some.injEq, Addr.mk.injEq] at h1
    obtain ⟨⟨rfl, rfl, _⟩, _, rfl⟩ := h1
    refine .inr ⟨g, o, c, by rw [List.length_take, Nat.min_eq_left hk], fun j hj => ?_⟩
    rw [List.length_take, Nat.min_eq_left hk] at hj
    rw [h2 j (by omega), getD_take hj]

set_option maxRecDepth 1000000 in
set_option maxHeartbeats 3200000 in
theorem vo_parted (p : List UInt8) (hp : p.length ≤ 9223372036854775807) (w : World) :
    Calls Try.prog 50 #[.string (bs p)] w fun e w' => e = .returned (.bool (!okTo p p.length)) ∧ w' = w := by
  have hsz : (bs p).size = p.length := bs_size p
  have HP := Hid.mk (And.intro (@okTo_succ p) (show ∀ r, r ≤ p.length → okTo p r = false → okTo p p.length = false from fun r hr hf => by
    unfold okTo at *
    cases ha : (p.take p.length).all fun c => !blk c && decide (c.toNat ≠ 10) with
    | false => rfl
    | true =>
      rw [List.take_length] at ha
      have : (p.take r).all (fun c => !blk c && decide (c.toNat ≠ 10)) = true := by
        rw [List.all_eq_true] at ha ⊢
        exact fun c hc => ha c (List.mem_of_mem_take hc)
      rw [hf] at this; cases this))
  obtain ⟨R, hR⟩ : ∃ R, okTo p p.length = R := ⟨_, rfl⟩
  rw [hR] at HP ⊢
  have HR := Hid.mk hR
  clear hR
  go_enter Try.func50, Try.ntmps50
  go_wp2
  go_loop [6] (fun k => ∃ r : Nat, r ≤ p.length ∧ k = .int .i64 r ∧ okTo p r = true) (fun k => p.length - (intOf k).toNat)
  case atStart => exact ⟨0, by omega, rfl, rfl⟩
  case round =>
    obtain ⟨r, hr, rfl, hok⟩ := hrel
    by_cases hlt : r < p.length
    · have hlt' : r < (bs p).size := by omega
      have hS := HP.out.1 hlt
      obtain ⟨B, hB⟩ : ∃ B, bt p r = B := ⟨_, rfl⟩
      have hbt : ((bs p)[r]'hlt').toNat = B := by rw [bt_bs, hB]
      rw [hB, hok, Bool.true_and] at hS
      clear hB
      have hbl := fun w => tk_blank B w
      have e10 : ((B : Int) == 10) = decide (B = 10) := int_eq B 10
      have HS := Hid.mk hS
      have HN := Hid.mk (HP.out.2 (r + 1) hlt)
      clear hS
      cases hb : blkN B <;> cases h10 : decide (B = 10)
      all_goals
        rw [hb] at hbl
        rw [h10] at e10
        go_wp2_with (go_at_call 66; refine (hbl _).mono ?_; rintro e w' ⟨rfl, hw'⟩; subst w')
      · refine ⟨⟨r + 1, by omega, by go_num, ?_⟩, by simp [intOf]; omega⟩
        rw [HS.out, hb]
        simpa using h10
      all_goals
        go_ret
        refine ⟨ret_bool ?_, rfl⟩
        rw [HN.out ?_]
        · rfl
        rw [HS.out, hb]
        first | rfl | (simpa using h10)
    · obtain rfl : r = p.length := by omega
      have HK := Hid.mk (HR.out.symm.trans hok)
      clear hok HP
      go_wp2
      go_ret
      exact ⟨ret_bool (by rw [HK.out]; rfl), rfl⟩

set_option maxRecDepth 1000000 in
set_option maxHeartbeats 3200000 in
theorem vo_right (p : List UInt8) (hp : p.length ≤ 9223372036854775807) (w : World) :
    Calls Try.prog 31 #[.string (bs p)] w fun e w' => e = .returned (.bool (rightW p)) ∧ w' = w := by
  have hsz : (bs p).size = p.length := bs_size p
  have HA := Hid.mk (okTo_all p)
  have hmk := fun w => tk_mark p w
  have hpa := fun w => vo_parted p hp w
  generalize rightW p = R at *
  obtain ⟨n, hn⟩ : ∃ n, p.length = n := ⟨_, rfl⟩
  rw [hn] at HA hpa hsz
  by_cases h0 : p = []
  · have hR : R = false := by rw [HA.out, decide_eq_false (by simpa using h0)]; simp
    have h1 : ((bs p).toList == []) = true := by rw [bs_list]; exact beq_iff_eq.2 h0
    have h2 : (bs p).toList = [] := by rw [bs_list]; exact h0
    have HR := Hid.mk hR
    clear HA h0 hn hR hp
    go_enter Try.func31, Try.ntmps31
    go_wp2
    go_ret
    exact ⟨ret_bool HR.out.symm, rfl⟩
  · have h1 : ((bs p).toList == []) = false := by rw [bs_list]; exact beq_eq_false_iff_ne.2 h0
    have h2 : ¬ (bs p).toList = [] := by rw [bs_list]; exact h0
    rw [decide_eq_true h0, Bool.true_and] at HA
    generalize okTo p n = K at *
    generalize isMark p = M at *
    rw [hn] at hp
    clear hn h0
    by_cases hb : n ≤ 255
    · rw [decide_eq_true hb, Bool.true_and] at HA
      have hb' : (n : Int) ≤ 255 := by omega
      cases M <;> cases K
      all_goals
        go_enter Try.func31, Try.ntmps31
        go_wp2_with (first
          | (go_at_call 49; refine (hmk _).mono ?_; rintro e w' ⟨rfl, hw'⟩; subst w')
          | (go_at_call 50; refine (hpa _).mono ?_; rintro e w' ⟨rfl, hw'⟩; subst w'))
        go_ret
        exact ⟨ret_bool HA.out.symm, rfl⟩
    · rw [decide_eq_false hb, Bool.false_and, Bool.and_false] at HA
      have hb' : ¬ (n : Int) ≤ 255 := by omega
      go_enter Try.func31, Try.ntmps31
      go_wp2
      go_ret
      exact ⟨ret_bool HA.out.symm, rfl⟩

set_option maxRecDepth 1000000 in
theorem rf_marks (w : World) :
    Calls Try.prog 25 #[] w fun e w' => ∃ v, e = .returned v ∧ Grow w v mk3 w' := by
  have hS : ∀ v, v = .slice (some ⟨w.heap.size, 0, none⟩) 3 3 → Grow w v mk3 (w.alloc (.cells #[.string (bs unkW), .string (bs mkB), .string (bs mkE)] 9)) := fun v hv => by
    subst hv
    refine ⟨⟨by rw [strs_len, Nat.mul_one], .inr ⟨w.heap.size, 3, _, rfl, Nat.le_refl _, heap_alloc_new w _, Nat.le_refl _, by unfold maxLen; omega, rfl, rfl⟩⟩, more_alloc _ _⟩
  have HS := Hid.mk hS
  clear hS
  go_enter Try.func25, Try.ntmps25
  go_wp2
  go_ret
  exact ⟨_, rfl, HS.out _ rfl⟩

set_option maxRecDepth 1000000 in
theorem rf_id (v : Value) (ts : List (List UInt8)) (s : List UInt8) (w : World) (ha : ARd w v ts) (hn : ts.length ≤ 1000000) :
    Calls Try.prog 58 #[v, .string (bs s)] w fun e w' => e = .returned (.int .i64 (idI ts s)) ∧ w' = w := by
  have hf := fun w (ha : ARd w v ts) => rf_find v ts s w ha (by omega)
  have HI := Hid.mk (show idI ts s = if fnd ts s < 0 then 0 else fnd ts s from rfl)
  generalize idI ts s = R at *
  generalize fnd ts s = F at *
  have hf0 := hf w ha
  clear ha hf
  go_enter Try.func58, Try.ntmps58
  go_wp2_with (go_at_call 27; refine hf0.mono ?_; rintro e w' ⟨rfl, hw'⟩; subst w')
  go_ret
  refine ⟨ret_i64 ?_, rfl⟩
  rw [HI.out]
  split <;> omega

set_option maxRecDepth 1000000 in
set_option maxHeartbeats 4000000 in
theorem rf_wrong (v : Value) (ts : List (List UInt8)) (w : World) (ha : ARd w v ts) (hcap : ∀ ao n cap, v = .slice ao n cap → n ≤ cap) (hn : ts.length ≤ 65536) (hx : ∀ x ∈ ts, x.length ≤ 281474976710656) :
    Calls Try.prog 7 #[v] w fun e w' => e = .returned (.int .i64 (wrV ts)) ∧ More w w' := by
  by_cases h3 : ts.length < 3
  · obtain ⟨ao, ca, rfl⟩ := ha.shape
    have HW := Hid.mk (wr_short h3)
    generalize wrV ts = R at *
    have h3' : (ts.length : Int) < 3 := by omega
    generalize ts.length = n at *
    clear ha hx hcap
    go_enter Try.func7, Try.ntmps7
    go_wp2_with fail
    go_quiet (fail)
    go_wp2
    go_ret
    exact ⟨ret_i64 (by rw [HW.out]; rfl), More.drewN _ _⟩
  rcases ha with ⟨h1, _⟩ | ⟨g, o, cap, rfl, hc⟩
  · rw [h1] at h3; simp at h3
  have hA : ARd w (.slice (some ⟨g, o, none⟩) ts.length cap) ts := .inr ⟨g, o, cap, rfl, hc⟩
  have hcl : ∀ k c, k ≤ ts.length → ARd w (.slice (some ⟨g, o, none⟩) k c) (ts.take k) := fun k c hk => hA.take rfl hk c
  have hmk := fun w => rf_marks w
  obtain ⟨n, hnn⟩ : ∃ n, ts.length = n := ⟨_, rfl⟩
  have h3l : (ts.take 3).length ≤ 1000000 := by rw [List.length_take]; omega
  have hsm := fun (v1 : Value) (W : World) (hm : More w W) (hg : SRd W v1 mk3) (c : Nat) => rf_same (.slice (some ⟨g, o, none⟩) 3 c) v1 (ts.take 3) mk3 W ((hcl 3 c (by omega)).more hm) hg.ard h3l (by decide)
  have h3d : decide ((n : Int) < 3) = false := decide_eq_false (by omega)
  have h3c : ¬ n < 3 := by omega
  have hnc : n ≤ cap := by rw [← hnn]; exact hcap _ _ _ rfl
  have hc3 : (3 : Int) ≤ cap := by omega
  clear hcap
  rw [hnn] at hc ⊢
  by_cases hh : ts.take 3 = mk3
  · rw [decide_eq_true hh] at hsm
    have HW := Hid.mk (And.intro (fun i (hi : i < ts.length) hb => wr_bad hh hi hb) (wr_ok hh))
    have HC := Hid.mk (And.intro hcl (And.intro hc (fun i (hi : i < ts.length) => hx _ (getD_mem hi))))
    rw [hnn] at HW HC
    generalize wrV ts = R at *
    have hbig : ¬ (65536 : Int) < n := by omega
    clear hh hA hcl hx h3 hnn hc
    go_enter Try.func7, Try.ntmps7
    go_wp2_with fail
    go_region_with (first
      | (go_at_call 25; refine (hmk _).mono ?_; rintro e w1 ⟨v1, rfl, hG⟩; have H1 := Hid.mk hG; clear hG)
      | (go_at_call 24; refine (hsm v1 w1 (More.trans (More.drewN w 1) H1.out.more) H1.out.rd _).mono ?_; rintro e w2 ⟨rfl, m, hw2⟩; have H2 := Hid.mk (show More w w2 by rw [hw2]; exact More.trans (More.trans (More.drewN w 1) H1.out.more) (More.drewN _ _)); clear hw2))
    all_goals
      go_wp2
      go_loopw [3] (fun k wr => ∃ r : Nat, 3 ≤ r ∧ r ≤ n ∧ k = .int .i64 r ∧ (∀ i, i < r → goodB ts i = true) ∧ More w wr) (fun k _ => n - (intOf k).toNat)
      case atStart => exact ⟨3, by omega, by omega, rfl, fun i hi => good_small hi, H2.out⟩
      case round =>
        obtain ⟨r, hr3, hr, rfl, hgd, hM⟩ := hrel
        by_cases hlt : r < n
        · have hxl := HC.out.2.2 r hlt
          have c1 : wr.cell? ⟨g, o + r, none⟩ = some (.string (bs (ts.getD r []))) := (hM.cell (World.block_lt_of_cell? _ _ (HC.out.2.1 r hlt))).trans (HC.out.2.1 r hlt)
          have hrt := fun w => rf_right (ts.getD r []) (by omega) w
          have hfd := fun k c => rf_find (.slice (some ⟨g, o, none⟩) r c) (ts.take r) (ts.getD r []) (wr.drewN k) ((HC.out.1 r c (by omega)).more (More.trans hM (More.drewN wr k))) (by rw [List.length_take]; omega)
          have HG := Hid.mk (good_new (l := ts) hr3)
          have HS := Hid.mk (And.intro hgd hM)
          have hB1 := HW.out.1 r hlt
          obtain ⟨x, hx⟩ : ∃ x, ts.getD r [] = x := ⟨_, rfl⟩
          rw [hx] at c1 hrt hfd HG hxl
          have hrc : (r : Int) ≤ cap := by omega
          clear hgd hM hx H2 hsm hmk
          cases hR : rightW x with
          | false =>
            rw [hR] at hrt HG
            have HB := Hid.mk (hB1 HG.out)
            clear hB1 HG hfd hR
            go_wp2_with fail
            go_quiet ((go_at_call 26; exact Calls.quiet_of_same (hrt _)))
            go_wp2
            go_ret
            exact ⟨ret_i64 (by rw [HB.out]; rfl), More.trans HS.out.2 (More.drewN _ _)⟩
          | true =>
            rw [hR] at hrt HG
            rw [Bool.true_and] at HG
            by_cases hF : fnd (ts.take r) x < 0
            · rw [decide_eq_true (fnd_neg hF)] at HG
              obtain ⟨F, hFe⟩ : ∃ F, fnd (ts.take r) x = F := ⟨_, rfl⟩
              rw [hFe] at hfd hF
              have hFd : decide (0 ≤ F) = false := decide_eq_false (by omega)
              have hFn : ¬ 0 ≤ F := by omega
              clear hB1 hR hFe
              go_wp2_with fail
              go_quiet (first | (go_at_call 26; exact Calls.quiet_of_same (hrt _)) | (go_at_call 27; exact Calls.quiet_of_same (hfd _ _)))
              go_wp2
              go_roundw
              case rel => exact ⟨r + 1, by omega, by omega, by go_num, fun i hi => by
                by_cases hir : i = r
                · subst hir; exact HG.out
                · exact HS.out.1 i (by omega), More.trans HS.out.2 (More.drewN _ _)⟩
              case measure => simp [intOf]; omega
            · rw [decide_eq_false (fun h => h (fnd_pos hF))] at HG
              have HB := Hid.mk (hB1 HG.out)
              obtain ⟨F, hFe⟩ : ∃ F, fnd (ts.take r) x = F := ⟨_, rfl⟩
              rw [hFe] at hfd hF
              have hFd : decide (0 ≤ F) = true := decide_eq_true (by omega)
              have hFn : 0 ≤ F := by omega
              clear hB1 HG hR hFe
              go_wp2_with fail
              go_quiet (first | (go_at_call 26; exact Calls.quiet_of_same (hrt _)) | (go_at_call 27; exact Calls.quiet_of_same (hfd _ _)))
              go_wp2
              go_ret
              exact ⟨ret_i64 (by rw [HB.out]; rfl), More.trans HS.out.2 (More.drewN _ _)⟩
        · obtain rfl : r = n := by omega
          have HB := Hid.mk (HW.out.2 hgd)
          have HS := Hid.mk hM
          clear hgd hM
          go_wp2
          go_ret
          exact ⟨ret_i64 (by rw [HB.out]; rfl), HS.out⟩
  · rw [decide_eq_false hh] at hsm
    have HW := Hid.mk (wr_head hh)
    generalize wrV ts = R at *
    clear hh hA hcl hx h3 h3l hnn
    go_enter Try.func7, Try.ntmps7
    go_wp2_with fail
    go_region_with (first
      | (go_at_call 25; refine (hmk _).mono ?_; rintro e w1 ⟨v1, rfl, hG⟩; have H1 := Hid.mk hG; clear hG)
      | (go_at_call 24; refine (hsm v1 w1 (More.trans (More.drewN w 1) H1.out.more) H1.out.rd _).mono ?_; rintro e w2 ⟨rfl, m, hw2⟩; have H2 := Hid.mk (show More w w2 by rw [hw2]; exact More.trans (More.trans (More.drewN w 1) H1.out.more) (More.drewN _ _)); clear hw2))
    all_goals
      go_wp2
      go_ret
      exact ⟨ret_i64 (by rw [HW.out]; rfl), H2.out⟩
end Go.Proofs.Ytiiflegfbieblaa

namespace Go.Proofs.Ytiiflegfbieblaa
open Go.RowKit Go.Shelf
attribute [local go_sem] Oper.semAt_some

/-- A vocabulary in memory: D are its table's blocks. -/
def Voc (w : World) (D : Nat → Prop) (v : Nat) (ts : List (List UInt8)) : Prop :=
  ¬ D v ∧ ∃ b, w.heap[v]? = some (.cells #[.pointer (some ⟨b, 0, none⟩)] 62 (0, 0)) ∧ Tab w D b ts
theorem Voc.more {w w' : World} {D : Nat → Prop} {v : Nat} {ts : List (List UInt8)} (h : Voc w D v ts) (k : More w w') : Voc w' D v ts := by
  obtain ⟨h1, b, h2, h3⟩ := h
  exact ⟨h1, b, k.at h2, h3.more k⟩
theorem Voc.lt {w : World} {D : Nat → Prop} {v : Nat} {ts : List (List UInt8)} (h : Voc w D v ts) : v < w.heap.size := by
  obtain ⟨h1, b, h2, h3⟩ := h
  exact lt_of_block h2

set_option maxRecDepth 1000000 in
theorem vo_table (p : Option Addr) (v : Nat) (w : World) (hc : w.cell? ⟨v, 0, none⟩ = some (.pointer p)) :
    Calls Try.prog 47 #[.pointer (some ⟨v, 0, none⟩)] w fun e w' => e = .returned (.agg #[.pointer p]) ∧ More w w' := by
  have hc2 : ∀ o, (w.alloc o).cell? ⟨v, 0, none⟩ = some (.pointer p) := fun o => ((more_alloc w o).cell (World.block_lt_of_cell? _ _ hc)).trans hc
  go_enter Try.func47, Try.ntmps47
  go_wp2
  refine bodyPost_ret (v := .agg #[.pointer p]) (by simp [results, Try.results47, go_sem]; try rfl) rfl ⟨rfl, more_alloc _ _⟩
set_option maxRecDepth 1000000 in
theorem vo_table_nil (w : World) :
    Calls Try.prog 47 #[.pointer none] w fun e w' => e = .returned (.agg #[.pointer none]) ∧ More w w' := by
  go_enter Try.func47, Try.ntmps47
  go_wp2
  refine bodyPost_ret (v := .agg #[.pointer none]) (by simp [results, Try.results47, go_sem]; try rfl) rfl ⟨rfl, more_alloc _ _⟩

theorem vo_field (p : Option Addr) (w : World) : (Instr.field 60 (.agg #[.pointer p]) 0).run Try.prog w = .ok (.pointer p) w := by kernel_rfl
attribute [local go_sem] vo_field

set_option maxRecDepth 1000000 in
theorem vo_ID (v : Nat) (w : World) (D : Nat → Prop) (ts : List (List UInt8)) (s : List UInt8) (h : Voc w D v ts) (hN : ts.length ≤ 100000) (hs : s.length ≤ 281474976710656) :
    Calls Try.prog 57 #[.pointer (some ⟨v, 0, none⟩), .string (bs s)] w fun e w' => e = .returned (.int .i64 (idI ts s)) ∧ More w w' := by
  obtain ⟨hv, b, hb, hT⟩ := h
  have ht := vo_table (some ⟨b, 0, none⟩) v w (wcells1 hb).1
  have hfd := fun w1 (hm : More w w1) => callsIn_wide.1 (in_Find 16 (Nat.le_refl _) w1 D b ts s (hT.more hm) hN hs)
  have HI := Hid.mk (show idI ts s = if fnd ts s < 0 then 0 else fnd ts s from rfl)
  generalize idI ts s = R at *
  obtain ⟨F, hF⟩ : ∃ F, fnd ts s = F := ⟨_, rfl⟩
  rw [hF] at hfd HI
  clear hb hT hv hF
  by_cases hn : F < 0
  · rw [if_pos hn] at HI
    have hn' : ¬ 0 ≤ F := by omega
    go_enter Try.func57, Try.ntmps57
    go_wp2_with (first
      | (go_at_call 47; refine ht.mono ?_; rintro e w1 ⟨rfl, hm⟩; have H1 := Hid.mk hm; clear hm)
      | (go_at_call 51; refine (hfd _ H1.out).mono ?_; rintro e w2 ⟨rfl, hm⟩; have H2 := Hid.mk hm; clear hm))
    go_ret
    exact ⟨ret_i64 HI.out.symm, More.trans H1.out H2.out⟩
  · rw [if_neg hn] at HI
    have hn' : 0 ≤ F := by omega
    go_enter Try.func57, Try.ntmps57
    go_wp2_with (first
      | (go_at_call 47; refine ht.mono ?_; rintro e w1 ⟨rfl, hm⟩; have H1 := Hid.mk hm; clear hm)
      | (go_at_call 51; refine (hfd _ H1.out).mono ?_; rintro e w2 ⟨rfl, hm⟩; have H2 := Hid.mk hm; clear hm))
    go_ret
    exact ⟨ret_i64 HI.out.symm, More.trans H1.out H2.out⟩
set_option maxRecDepth 1000000 in
theorem vo_Has (v : Nat) (w : World) (D : Nat → Prop) (ts : List (List UInt8)) (s : List UInt8) (h : Voc w D v ts) (hN : ts.length ≤ 100000) (hs : s.length ≤ 281474976710656) :
    Calls Try.prog 32 #[.pointer (some ⟨v, 0, none⟩), .string (bs s)] w fun e w' => e = .returned (.bool (decide (0 ≤ fnd ts s))) ∧ More w w' := by
  obtain ⟨hv, b, hb, hT⟩ := h
  have ht := vo_table (some ⟨b, 0, none⟩) v w (wcells1 hb).1
  have hfd := fun w1 (hm : More w w1) => callsIn_wide.1 (in_Find 16 (Nat.le_refl _) w1 D b ts s (hT.more hm) hN hs)
  generalize fnd ts s = F at *
  clear hb hT hv
  go_enter Try.func32, Try.ntmps32
  go_wp2_with (first
    | (go_at_call 47; refine ht.mono ?_; rintro e w1 ⟨rfl, hm⟩; have H1 := Hid.mk hm; clear hm)
    | (go_at_call 51; refine (hfd _ H1.out).mono ?_; rintro e w2 ⟨rfl, hm⟩; have H2 := Hid.mk hm; clear hm))
  go_ret
  exact ⟨rfl, More.trans H1.out H2.out⟩
theorem txt_of (ts : List (List UInt8)) (i : Int) : txt ts i = .tuple #[.string (bs (wdI ts i)), .bool (decide (0 ≤ i ∧ i < ts.length))] := by
  unfold txt wdI
  by_cases h : 0 ≤ i ∧ i < ts.length
  · rw [if_pos h, if_pos h, decide_eq_true h]
  · rw [if_neg h, if_neg h, decide_eq_false h]
/-! Of nil. -/
set_option maxRecDepth 1000000 in
theorem von_ID (s : ByteArray) (w : World) :
    Calls Try.prog 57 #[.pointer none, .string s] w fun e w' => e = .returned (.int .i64 0) ∧ More w w' := by
  go_enter Try.func57, Try.ntmps57
  go_wp2_with (first
    | (go_at_call 47; refine (vo_table_nil _).mono ?_; rintro e w1 ⟨rfl, hm⟩; have H1 := Hid.mk hm; clear hm)
    | (go_at_call 51; refine (inn_Find _ _).mono ?_; rintro e w' ⟨rfl, hw'⟩; subst w'))
  go_ret
  exact ⟨rfl, H1.out⟩
set_option maxRecDepth 1000000 in
theorem von_Has (s : ByteArray) (w : World) :
    Calls Try.prog 32 #[.pointer none, .string s] w fun e w' => e = .returned (.bool false) ∧ More w w' := by
  go_enter Try.func32, Try.ntmps32
  go_wp2_with (first
    | (go_at_call 47; refine (vo_table_nil _).mono ?_; rintro e w1 ⟨rfl, hm⟩; have H1 := Hid.mk hm; clear hm)
    | (go_at_call 51; refine (inn_Find _ _).mono ?_; rintro e w' ⟨rfl, hw'⟩; subst w'))
  go_ret
  exact ⟨rfl, H1.out⟩
end Go.Proofs.Ytiiflegfbieblaa

namespace Go.Proofs.Ytiiflegfbieblaa
open Go.RowKit Go.Shelf
attribute [local go_sem] Oper.semAt_some vo_field

theorem Off.more_after {D : Nat → Prop} {w w1 w2 : World} (h : More w w1) (k : Off D w1 w2) : Off D w w2 := (Off.of_more h).trans k fun _ hj => .inl hj

/-- What an add tells. -/
theorem Voc.of_tab {w w' : World} {D D' : Nat → Prop} {v b : Nat} {ts' : List (List UInt8)} (hv : ¬ D v) (hb : w.heap[v]? = some (.cells #[.pointer (some ⟨b, 0, none⟩)] 62 (0, 0))) (hT : Tab w' D' b ts') (hO : Off D w w') (hD : ∀ j, D' j → D j ∨ w.heap.size ≤ j) : Voc w' D' v ts' :=
  ⟨fun h => (hD v h).elim hv fun hc => by have := lt_of_block hb; omega, b, (hO.block v (lt_of_block hb) hv).trans hb, hT⟩

end Go.Proofs.Ytiiflegfbieblaa
