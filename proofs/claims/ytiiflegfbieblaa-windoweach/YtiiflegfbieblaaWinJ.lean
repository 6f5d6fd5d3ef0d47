/-
  slices.Concat; padded sentences: window's Pad and the document's.
-/
import Derived.Test.YtiiflegfbieblaaWinI
namespace Go.Proofs.Ytiiflegfbieblaa
open Go.RowKit

theorem own_none {W : World} {B g : Nat} (hg : B ≤ g) (hc : W.heap[g]? = some (.cells #[] 3 (0, 0))) : NL W B (.slice (some ⟨g, 0, none⟩) 0 0) [] :=
  ⟨rfl, .inr ⟨g, 0, #[], rfl, hg, hc, Nat.le_refl _, by decide, rfl, rfl⟩⟩
theorem own_two {W : World} {B g : Nat} {x : Int} (hg : B ≤ g) (hc : W.heap[g]? = some (.cells #[.int .i64 x] 3 (0, 0))) : NL W B (.slice (some ⟨g, 0, none⟩) 1 1) [x] :=
  ⟨rfl, .inr ⟨g, 1, #[.int .i64 x], rfl, hg, hc, Nat.le_refl _, by decide, rfl, rfl⟩⟩

/-- An append of ints to a row of the call's own; what is appended is such a row, too. -/
theorem wpList_app_ints {ops : Array Oper} {rest : List Oper} {o : Oper} {a : Act} {Q : Exit → Act → World → Prop} (w : World) (hgd : o.guard = none) (s x : Operand)
    (ho : o.op = .call { callee := .builtin .append, args := #[s, x], argTypes := #[30, 30] }) (base : Nat) (v vs : Value) (l m : List Int) (hs : a.eval s = v) (hx : a.eval x = vs)
    (hown : NL w base v l) (B2 : Nat) (hsrc : NL w B2 vs m) (hbase : base ≤ w.heap.size) (hlen : l.length + m.length ≤ 1000000)
    (h : ∀ v' w', NL w' base v' (l ++ m) → Below base w w' → wpList Try.prog ops Q rest (a.put o.dst v') w') : wpList Try.prog ops Q (o :: rest) a w := by
  obtain ⟨i0, hi, hz0, hz1, hz2⟩ := info_parts Try.infoInt
  have hfin : ∀ v' w', w'.ownsRow base 3 1 v' (l.length + m.length) (zs l ++ zs m) → w.grownBy w' v.ownBlock → wpList Try.prog ops Q rest (a.put o.dst v') w' := fun v' w' h2 h3 =>
    h v' w' (by unfold NL; rw [zs_app, List.length_append]; exact h2) ((Below.refl base w).grown h3 hbase fun k hk => (World.ownsRow.lt hown k hk).1)
  rcases row_src hsrc with ⟨rfl, h0⟩ | ⟨ad, c, rfl, hc⟩
  · have hm : m = [] := List.eq_nil_of_length_eq_zero h0
    subst hm
    exact wpList_append_own_none hgd s x 30 ho base 3 i0 1 Try.underlying30 hi v l.length (zs l) hs hown hx (hfin v w (by have h5 := hown; unfold NL at h5; simpa [zs] using h5) ⟨rfl, rfl, rfl, Nat.le_refl _, fun _ _ _ => rfl⟩)
  · exact wpList_append_own w hgd s x 30 ho base 3 i0 (.int .i64 0) 1 8 Try.underlying30 hi hz0 hz1 hz2 rfl (by decide) v l.length (zs l) hs hown ad m.length c (zs m) hx (by rw [zs_len, Nat.mul_one]) hc (zs_one m) (by unfold maxLen; omega) (by omega) hbase fun v' w' h2 h3 _ => hfin v' w' h2 h3

theorem flat_len {L : List (List Int)} {r : Nat} (h : r < L.length) : (L.take (r + 1)).flatten = (L.take r).flatten ++ L.getD r [] := by
  rw [take_in (d := []) h]; simp
theorem flat_le (L : List (List Int)) (r : Nat) : (L.take r).flatten.length ≤ L.flatten.length := by
  have h : L.flatten = (L.take r).flatten ++ (L.drop r).flatten := by rw [← List.flatten_append, List.take_append_drop]
  rw [h, List.length_append]; omega

set_option maxRecDepth 1000000 in
set_option maxHeartbeats 1600000 in
theorem w_concat (g cap : Nat) (L : List (List Int)) (w : World) (hc : ∀ j, j < L.length → ∃ u B, w.cell? ⟨g, j, none⟩ = some u ∧ NL w B u (L.getD j [])) (hl : L.length ≤ 1000) (hx : L.flatten.length ≤ 100000) :
    Calls Try.prog 34 #[.slice (some ⟨g, 0, none⟩) L.length cap] w fun e w' => ∃ r, e = .returned r ∧ NL w' w.heap.size r L.flatten ∧ More w w' := by
  obtain ⟨K, hK⟩ : ∃ K, L.length = K := ⟨_, rfl⟩
  have HC := Hid.mk (And.intro hK (And.intro hc (And.intro (flat_le L) (fun r (hr : r < L.length) => flat_len hr))))
  have HT := Hid.mk (show L.take K = L by rw [← hK, List.take_length])
  rw [hK] at hl ⊢
  have HX := Hid.mk hx
  clear hc hK hx
  go_enter Try.func34, Try.ntmps34
  go_wp2
  go_loop [3, 11] (fun s i => ∃ r : Nat, r ≤ K ∧ i = .int .i64 r ∧ s = .int .i64 ((L.take r).flatten.length : Nat)) (fun _ i => K - (intOf i).toNat)
  case atStart => exact ⟨0, by omega, rfl, by simp⟩
  case round =>
    obtain ⟨r, hr, rfl, rfl⟩ := hrel
    by_cases hlt : r < K
    · have hlA : r < L.length := by rw [HC.out.1]; exact hlt
      obtain ⟨u, B, cu, hu⟩ := HC.out.2.1 r hlA
      have hfl := congrArg List.length (HC.out.2.2.2 r hlA)
      rw [List.length_append] at hfl
      have hle := HC.out.2.2.1 (r + 1)
      have hx := HX.out
      obtain ⟨uo, uc, rfl⟩ := hu.shape
      obtain ⟨X, hX⟩ : ∃ X, (L.take r).flatten.length = X := ⟨_, rfl⟩
      obtain ⟨Y, hY⟩ : ∃ Y, (L.getD r []).length = Y := ⟨_, rfl⟩
      rw [hX, hY] at hfl
      rw [hY] at cu
      rw [hX]
      have hXY : X + Y ≤ 100000 := by omega
      have HF := Hid.mk hfl
      clear hfl hle hx hu hX hY
      go_wp2
      go_round
      case rel => exact ⟨r + 1, by omega, by go_num, by rw [HF.out]; go_num⟩
      case measure => simp [intOf]; omega
    · obtain rfl : r = K := by omega
      rw [HT.out]
      have hx := HX.out
      obtain ⟨X, hX⟩ : ∃ X, L.flatten.length = X := ⟨_, rfl⟩
      rw [hX] at hx ⊢
      have hgw := gw_ints X (by omega) w
      clear hX
      go_wp2_with (go_at_call 56; refine hgw.mono ?_; rintro e w1 ⟨v1, rfl, hN, hM⟩; have H1 := Hid.mk (And.intro hN hM); clear hN hM hgw)
      go_loopw [6, 27] (fun x i wr => ∃ q : Nat, q ≤ r ∧ i = .int .i64 q ∧ NL wr w.heap.size x (L.take q).flatten ∧ More w wr) (fun _ i _ => r - (intOf i).toNat)
      case atStart => exact ⟨0, by omega, rfl, by simpa using H1.out.1, H1.out.2⟩
      case round =>
        obtain ⟨q, hq, rfl, hN, hR⟩ := hrel
        clear H1
        by_cases hlt2 : q < r
        · have hlA : q < L.length := by rw [HC.out.1]; exact hlt2
          obtain ⟨u, B, cu, hu⟩ := HC.out.2.1 q hlA
          have cu2 := (hR.cell (World.block_lt_of_cell? _ _ cu)).trans cu
          have hfl := HC.out.2.2.2 q hlA
          have hle := HC.out.2.2.1 (q + 1)
          obtain ⟨P, hP⟩ : ∃ P, L.getD q [] = P := ⟨_, rfl⟩
          rw [hP] at hu hfl
          have hxx := HX.out
          rw [hfl, List.length_append] at hle
          have HH := Hid.mk (And.intro hfl (And.intro hN (And.intro (hu.more hR) (And.intro hR hle))))
          obtain ⟨xo, xc, rfl⟩ := hN.shape
          clear cu hu hN hfl hle hP
          go_wp2_with (at_builtin; refine wpList_app_ints _ rfl (.tmp 31) (.tmp 32) rfl w.heap.size _ _ (L.take q).flatten P rfl rfl HH.out.2.1 B HH.out.2.2.1 ?c3 ?c4 ?_)
          case c3 => exact HH.out.2.2.2.1.size
          case c4 => have := HH.out.2.2.2.2; have := HX.out; omega
          intro v' w4 hN4 hB4
          have HN := Hid.mk (And.intro (show NL w4 w.heap.size v' (L.take (q + 1)).flatten by rw [HH.out.1]; exact hN4) (Below.trans HH.out.2.2.2.1 hB4))
          obtain ⟨ao4, cap4, rfl⟩ := wshape_of hN4
          clear hN4 hB4
          go_wp2
          go_roundw
          case rel => exact ⟨q + 1, by omega, by go_num, HN.out.1, HN.out.2⟩
          case measure => simp [intOf]; omega
        · obtain rfl : q = r := by omega
          rw [HT.out] at hN
          have HN := Hid.mk (And.intro hN hR)
          obtain ⟨xo, xc, rfl⟩ := hN.shape
          clear hN hR
          go_wp2
          go_ret
          exact ⟨_, rfl, HN.out.1, HN.out.2⟩

theorem w_concat3 (w2 W : World) (a r : Value) (la lr : List Int) (g2 g3 : Nat) (hW : W = (w2.alloc (.cells #[.int .i64 2] 3)).alloc (.cells #[a, r, .slice (some ⟨g2, 0, none⟩) 1 1] 30)) (hg2 : g2 = w2.heap.size) (hg3 : g3 = w2.heap.size + 1) (Ba Br : Nat) (ha : NL w2 Ba a la) (hr : NL w2 Br r lr) (hl : la.length + lr.length ≤ 50000) :
    Calls Try.prog 34 #[.slice (some ⟨g3, 0, none⟩) 3 3] W fun e w' => ∃ v, e = .returned v ∧ NL w' w2.heap.size v (la ++ lr ++ [2]) ∧ More w2 w' := by
  subst hW hg2 hg3
  obtain ⟨w3, hw3⟩ : ∃ w3, w2.alloc (.cells #[.int .i64 2] 3) = w3 := ⟨_, rfl⟩
  have hm3 : More w2 w3 := by rw [← hw3]; exact more_alloc _ _
  have hs3 : w3.heap.size = w2.heap.size + 1 := by rw [← hw3]; simp
  have hn2 : NL w3 w2.heap.size (.slice (some ⟨w2.heap.size, 0, none⟩) 1 1) [2] := by rw [← hw3]; exact own_two (Nat.le_refl _) (heap_alloc_new _ _)
  rw [hw3, ← hs3]
  have hm4 := more_alloc w3 (.cells #[a, r, .slice (some ⟨w2.heap.size, 0, none⟩) 1 1] 30)
  have hb := heap_alloc_new w3 (.cells #[a, r, .slice (some ⟨w2.heap.size, 0, none⟩) 1 1] 30)
  have hc := wcells3 hb
  refine (w_concat w3.heap.size 3 [la, lr, [2]] _ (fun j hj => ?_) (by simp) (by simp; omega)).mono ?_
  · match j, hj with
    | 0, _ => exact ⟨a, Ba, hc.1, (ha.more hm3).more hm4⟩
    | 1, _ => exact ⟨r, Br, hc.2.1, (hr.more hm3).more hm4⟩
    | 2, _ => exact ⟨_, w2.heap.size, hc.2.2.1, hn2.more hm4⟩
  · rintro e w' ⟨v, rfl, hN, hM⟩
    refine ⟨v, rfl, ?_, More.trans hm3 (More.trans hm4 hM)⟩
    rw [show [la, lr, [2]].flatten = la ++ lr ++ [2] by simp] at hN
    exact hN.base (by simp; omega)

theorem ids_nl {ts ws : List (List UInt8)} {w : World} {B : Nat} {v : Value} (h : NRow w B v ws.length (fun j => idN ts (ws.getD j []))) : NL w B v (ws.map fun s => idI ts s) :=
  h.nl (by simp) fun j hj => by
    rw [← idN_of]
    simp [List.getD, List.getElem?_eq_getElem hj]

set_option maxRecDepth 1000000 in
set_option maxHeartbeats 1600000 in
theorem w_pad (p : Option Addr) (u : Value) (ts ws : List (List UInt8)) (w : World) (hb : ARd w u ws) (hm : ws.length ≤ 40000) (hx : ∀ x ∈ ws, x.length ≤ 281474976710656)
    (hid : ∀ (W : World), More w W → ∀ s : List UInt8, s.length ≤ 281474976710656 → Calls Try.prog 57 #[.pointer p, .string (bs s)] W fun e w' => e = .returned (.int .i64 (idI ts s)) ∧ More W w') :
    Calls Try.prog 11 #[.pointer p, u] w fun e w' => ∃ r, e = .returned r ∧ NL w' w.heap.size r (pad ts ws) ∧ More w w' := by
  have H0 := Hid.mk (show More w (w.alloc (.cells #[.int .i64 1] 3)) from more_alloc _ _)
  have hN1 := Hid.mk (show NL (w.alloc (.cells #[.int .i64 1] 3)) w.heap.size (.slice (some ⟨w.heap.size, 0, none⟩) 1 1) [1] from own_two (Nat.le_refl _) (heap_alloc_new _ _))
  have hi1 := vo_ids p u ts ws (w.alloc (.cells #[.int .i64 1] 3)) (hb.more H0.out) (by omega) hx (fun W2 hM2 s hs => hid W2 (More.trans H0.out hM2) s hs)
  have hml : (ws.map fun s => idI ts s).length ≤ 40000 := by simpa using hm
  have HL := Hid.mk hml
  obtain ⟨uo, uc, rfl⟩ := hb.shape
  clear hb hx hid hml
  go_enter Try.func11, Try.ntmps11
  go_wp2_with (first
    | (go_at_call 35; refine hi1.mono ?_; rintro e w2 ⟨r, rfl, hN, hM⟩; have hN2 := ids_nl hN; clear hN; obtain ⟨ro, rc, hrs⟩ := hN2.shape; rw [List.length_map] at hrs; subst hrs; have H2 := Hid.mk (And.intro hN2 (And.intro (hN1.out.more hM) hM)); clear hN2 hM hi1)
    | (go_at_call 34; refine (w_concat3 w2 _ _ _ [1] (ws.map fun s => idI ts s) _ _ rfl ?_ ?_ _ _ H2.out.2.1 H2.out.1 ?_).mono ?_; (first | rfl | simp); (first | rfl | simp); (have := HL.out; simp at this ⊢; omega)
       rintro e w3 ⟨v3, rfl, hN, hM⟩; have H3 := Hid.mk (And.intro hN hM); clear hN hM))
  go_ret
  exact ⟨_, rfl, H3.out.1.base (Nat.le_trans H0.out.size H2.out.2.2.size), More.trans (More.trans H0.out H2.out.2.2) H3.out.2⟩

set_option maxRecDepth 1000000 in
set_option maxHeartbeats 1600000 in
theorem rf_pad (v u : Value) (ts ws : List (List UInt8)) (w : World) (ha : ARd w v ts) (hb : ARd w u ws) (hn : ts.length ≤ 1000000) (hm : ws.length ≤ 40000) :
    Calls Try.prog 12 #[v, u] w fun e w' => ∃ r, e = .returned r ∧ NL w' w.heap.size r (pad ts ws) ∧ More w w' := by
  have hids := fun W (h : More w W) => rf_ids v u ts ws W (ha.more h) (hb.more h) hn (by omega)
  have hml : (ws.map fun s => idI ts s).length ≤ 40000 := by simpa using hm
  have HL := Hid.mk hml
  obtain ⟨ao, ac, rfl⟩ := ha.shape
  obtain ⟨uo, uc, rfl⟩ := hb.shape
  obtain ⟨wA, hwA⟩ : ∃ wA, w.alloc (.cells #[.int .i64 1] 3) = wA := ⟨_, rfl⟩
  have hmA : More w wA := by rw [← hwA]; exact more_alloc _ _
  have hNA : NL wA w.heap.size (.slice (some ⟨w.heap.size, 0, none⟩) 1 1) [1] := by rw [← hwA]; exact own_two (Nat.le_refl _) (heap_alloc_new _ _)
  obtain ⟨wB, hwB⟩ : ∃ wB, wA.alloc (.cells #[] 3) = wB := ⟨_, rfl⟩
  have hmB : More wA wB := by rw [← hwB]; exact more_alloc _ _
  have hNB : NL wB w.heap.size (.slice (some ⟨wA.heap.size, 0, none⟩) 0 0) [] := by rw [← hwB]; exact own_none hmA.size (heap_alloc_new _ _)
  have H0 := Hid.mk (And.intro hNB (And.intro (hNA.more hmB) (More.trans hmA hmB)))
  generalize hI : (ws.map fun s => idI ts s) = I at *
  have HI := Hid.mk (show [1] ++ I ++ [2] = pad ts ws by rw [← hI]; rfl)
  have hidsI : ∀ W, More w W → Calls Try.prog 36 #[.slice ao ts.length ac, .slice uo ws.length uc] W fun e w' => ∃ r, e = .returned r ∧ NL w' W.heap.size r I ∧ More W w' := fun W h => (hids W h).mono fun e w' ⟨r, h1, h2, h3⟩ => ⟨r, h1, by rw [← hI]; exact ids_nl h2, h3⟩
  clear ha hb hml hmA hNA hmB hNB hids hI
  go_enter Try.func12, Try.ntmps12
  go_wp2_with (at_builtin; refine wpList_app_ints _ rfl (.tmp 7) (.tmp 8) rfl w.heap.size _ _ [] [1] rfl rfl H0.out.1 _ H0.out.2.1 H0.out.2.2.size (by decide) ?_)
  intro v1 w1 hN1 hB1
  have H1 := Hid.mk (And.intro (show NL w1 w.heap.size v1 [1] from hN1) (Below.trans H0.out.2.2 hB1))
  obtain ⟨o1, c1, rfl⟩ := hN1.shape
  clear hN1 hB1 hwA hwB
  go_wp2_with (first
    | (go_at_call 36; refine (hidsI _ H1.out.2).mono ?_; rintro e w2 ⟨r, rfl, hN, hM⟩; have H2 := Hid.mk (And.intro hN (And.intro (H1.out.1.more hM) (More.trans H1.out.2 hM))); obtain ⟨o2, c2, rfl⟩ := hN.shape; clear hN hM hidsI)
    | (at_builtin; refine wpList_app_ints _ rfl (.tmp 9) (.tmp 12) rfl w.heap.size _ _ [1] I rfl rfl H2.out.2.1 _ H2.out.1 H2.out.2.2.size (by have := HL.out; simp; omega) ?_))
  intro v3 w3 hN3 hB3
  obtain ⟨wC, hwC⟩ : ∃ wC, w3.alloc (.cells #[] 3) = wC := ⟨_, rfl⟩
  have hM3 : More w w3 := Below.trans H2.out.2.2 hB3
  have hmC : More w3 wC := by rw [← hwC]; exact more_alloc _ _
  have H3 := Hid.mk (And.intro (show NL wC w.heap.size (.slice (some ⟨w3.heap.size, 0, none⟩) 0 0) [] by rw [← hwC]; exact own_none hM3.size (heap_alloc_new _ _)) (And.intro (hN3.more hmC) (More.trans hM3 hmC)))
  obtain ⟨o3, c3, rfl⟩ := hN3.shape
  clear hN3 hB3 hM3 hmC
  go_wp2_with (at_builtin; refine wpList_app_ints _ rfl (.tmp 14) (.tmp 15) rfl w.heap.size _ _ [] ([1] ++ I) rfl rfl H3.out.1 _ H3.out.2.1 H3.out.2.2.size (by have := HL.out; simp; omega) ?_)
  intro v4 w4 hN4 hB4
  obtain ⟨wD, hwD⟩ : ∃ wD, w4.alloc (.cells #[.int .i64 2] 3) = wD := ⟨_, rfl⟩
  have hM4 : More w w4 := Below.trans H3.out.2.2 hB4
  have hmD : More w4 wD := by rw [← hwD]; exact more_alloc _ _
  have H4 := Hid.mk (And.intro (show NL wD w.heap.size (.slice (some ⟨w4.heap.size, 0, none⟩) 1 1) [2] by rw [← hwD]; exact own_two hM4.size (heap_alloc_new _ _)) (And.intro (show NL wD w.heap.size v4 ([1] ++ I) from hN4.more hmD) (More.trans hM4 hmD)))
  obtain ⟨o4, c4, rfl⟩ := hN4.shape
  clear hN4 hB4 hM4 hmD hwC
  go_wp2_with (at_builtin; refine wpList_app_ints _ rfl (.tmp 16) (.tmp 17) rfl w.heap.size _ _ ([1] ++ I) [2] rfl rfl H4.out.2.1 _ H4.out.1 H4.out.2.2.size (by have := HL.out; simp; omega) ?_)
  intro v5 w5 hN5 hB5
  have H5 := Hid.mk (And.intro (show NL w5 w.heap.size v5 (pad ts ws) by rw [← HI.out]; exact hN5) (Below.trans H4.out.2.2 hB5))
  obtain ⟨o5, c5, rfl⟩ := hN5.shape
  clear hN5 hB5 hwD
  go_wp2
  go_ret
  exact ⟨_, rfl, H5.out.1, H5.out.2⟩
end Go.Proofs.Ytiiflegfbieblaa
