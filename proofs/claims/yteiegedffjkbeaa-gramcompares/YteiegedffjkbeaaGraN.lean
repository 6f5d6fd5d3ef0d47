/-
  gram: Sum.
-/
import Derived.Test.YteiegedffjkbeaaGraM
import Derived.Deep.AppendLies
import Derived.Deep.RegionLaw
namespace Go.Proofs.Yteiegedffjkbeaa
open Go.RowKit

theorem NL.apart {w w' : World} {u v : Value} {l : List Int} {B base n : Nat} {xs : List Value} (h : NL w B u l) (hg : w.grownBy w' v.ownBlock) (hown : w.ownsRow base 43 2 v n xs) : NL w' B u l := by
  refine World.ownsRow.kept h hg ?_
  cases hu : u.ownBlock with
  | none => exact .inl rfl
  | some k =>
    refine .inr fun e => ?_
    rcases hown.2 with ⟨rfl, _⟩ | ⟨g, cap, cur, rfl, _, hh, _⟩
    · simp [Value.ownBlock] at e
    · rcases h.2 with ⟨rfl, _⟩ | ⟨g2, cap2, cur2, rfl, _, hh2, _⟩
      · simp [Value.ownBlock] at hu
      · simp [Value.ownBlock] at hu e
        subst hu
        subst e
        rw [hh] at hh2
        simp at hh2
/-- A row of n-grams of the call's own, the n-grams too. -/
structure PRow (w : World) (B : Nat) (r : Value) (Z : List (Value × CE)) : Prop where
  row : w.ownsRow B 43 2 r Z.length (cz Z)
  ins : ∀ z ∈ Z, ∃ B', NL w B' z.1 z.2.1
theorem PRow.nil (w : World) (B : Nat) : PRow w B (.slice none 0 0) [] := ⟨World.ownsRow_nil _ _ _ _, fun _ h => by simp at h⟩
theorem PRow.more {w w' : World} {B : Nat} {r : Value} {Z : List (Value × CE)} (h : PRow w B r Z) (k : More w w') : PRow w' B r Z := ⟨k.own h.row, fun z hz => by
  obtain ⟨B', hB⟩ := h.ins z hz
  exact ⟨B', hB.more k⟩⟩
theorem PRow.crow {w : World} {B : Nat} {r : Value} {Z : List (Value × CE)} (h : PRow w B r Z) : CRow w w B r Z := ⟨h.row, fun z hz => by
  obtain ⟨B', hB⟩ := h.ins z hz
  exact hB.il⟩
theorem PRow.shape {w : World} {B : Nat} {r : Value} {Z : List (Value × CE)} (h : PRow w B r Z) : ∃ ao cap, r = .slice ao Z.length cap := h.crow.shape
theorem PRow.app {wr Wa W' : World} {B B' : Nat} {v v' : Value} {Z : List (Value × CE)} {z : Value × CE} (h : PRow wr B v Z) (hM : More wr Wa) (hz : NL Wa B' z.1 z.2.1) (hown : W'.ownsRow B 43 2 v' (Z.length + 1) (cz Z ++ [z.1, .int .i64 z.2.2])) (hg : Wa.grownBy W' v.ownBlock) : PRow W' B v' (Z ++ [z]) :=
  have ha := h.more hM
  ⟨by rw [List.length_append, cz_snoc]; exact hown, fun y hy => by
    rcases List.mem_append.1 hy with e | e
    · obtain ⟨B2, h2⟩ := ha.ins y e
      exact ⟨B2, h2.apart hg ha.row⟩
    · simp at e
      rw [e]
      exact ⟨B', hz.apart hg ha.row⟩⟩
theorem PRow.setLast {wr : World} {B g cap n : Nat} {Y : List (Value × CE)} {u : Value} {f : List Int} {x : Int} (hn : n = Y.length + 1) (h : PRow wr B (.slice (some ⟨g, 0, none⟩) n cap) (Y ++ [(u, (f, x))])) (y : Int) :
    PRow (wr.setCell ⟨g, Y.length * 2 + 1, none⟩ (.int .i64 y)) B (.slice (some ⟨g, 0, none⟩) n cap) (Y ++ [(u, (f, y))]) := by
  have hr : wr.ownsRow B 43 2 (.slice (some ⟨g, 0, none⟩) n cap) n (cz (Y ++ [(u, (f, x))])) := by
    have := h.row
    rwa [show (Y ++ [(u, (f, x))]).length = n by simp [hn]] at this
  have hst := (hr.stored (Y.length * 2 + 1) (.int .i64 y)).1
  have hg : wr.grownBy _ (Value.slice (some ⟨g, 0, none⟩) n cap).ownBlock := grown_at wr g (Y.length * 2 + 1) (.int .i64 y)
  have hlen := cz_len Y
  have e : (cz (Y ++ [(u, (f, x))])).set (Y.length * 2 + 1) (.int .i64 y) = cz (Y ++ [(u, (f, y))]) := by
    rw [cz_snoc, cz_snoc, List.set_append, if_neg (by omega), hlen, show Y.length * 2 + 1 - Y.length * 2 = 1 by omega]
    rfl
  rw [e] at hst
  refine ⟨by rw [show (Y ++ [(u, (f, y))]).length = n by simp [hn]]; exact hst, fun z hz => ?_⟩
  rcases List.mem_append.1 hz with k | k
  · obtain ⟨B', hB⟩ := h.ins z (by simp [k])
    exact ⟨B', hB.apart hg h.row⟩
  · simp at k
    obtain ⟨B', hB⟩ := h.ins (u, (f, x)) (by simp)
    rw [k]
    exact ⟨B', hB.apart hg h.row⟩
/-- One of a sorted list is not below what the ones ahead come to. -/
theorem sum_under {S : List CE} (ho : ∀ i j, i < j → j < S.length → cmpL (ce S i).1 (ce S j).1 ≤ 0) {r : Nat} (hr : r < S.length) : ∀ y ∈ sumI (S.take r), cmpL y.1 (ce S r).1 ≤ 0 := fun y hy => by
  obtain ⟨z, hz, e⟩ := sumI_key _ y hy
  obtain ⟨i, hi, rfl⟩ := List.getElem_of_mem hz
  rw [List.length_take] at hi
  have := ho i r (by omega) hr
  rw [e, List.getElem_take]
  rwa [ce_get S (by omega)] at this
theorem sum_next {S : List CE} {r : Nat} (hr : r < S.length) : sumI (S.take (r + 1)) = ins (sumI (S.take r)) (ce S r) := by
  rw [sumI_take S hr, ce_get S hr]
theorem snoc_of {α : Type} (l : List α) (h : l ≠ []) : ∃ m x, l = m ++ [x] := ⟨l.dropLast, l.getLast h, (List.dropLast_concat_getLast h).symm⟩

set_option maxRecDepth 1000000 in
set_option maxHeartbeats 4000000 in
theorem gr_sum (v : Value) (L : List CE) (w : World) (h : CL w v L) (hl : L.length ≤ 100000) (hs : Sht L) (hf : ∀ x ∈ L, Fit x.2) :
    Calls Try.prog 17 #[v] w fun e w' => ∃ r, e = .returned r ∧ CL w' r (sumI L) ∧ More w w' := by
  have mixed : Try.prog.follows Departure.mixedOrders = true := by kernel_rfl
  obtain ⟨i0, hi, hz0, hz1, hz2⟩ := info_parts Try.infoCE
  have hso := gr_sorted v L w h hl hs
  have HL := Hid.mk (And.intro hl (And.intro hs hf))
  obtain ⟨ao, cap, rfl⟩ := h.shape
  clear h hl hs hf
  generalize hn : L.length = n0 at *
  go_enter Try.func17, Try.ntmps17
  go_wp2_with (go_at_call 28; refine hso.mono ?_; rintro e w1 ⟨v1, S, rfl, hC, hp, ho, hM⟩; have H1 := Hid.mk (And.intro hC (And.intro hp (And.intro ho hM))); obtain ⟨so, sc, rfl⟩ := hC.shape; clear hC hp ho hM hso)
  have hsl : S.length = n0 := by rw [H1.out.2.1.length_eq, hn]
  obtain ⟨n, hSn⟩ : ∃ n, S.length = n := ⟨_, rfl⟩
  have hln : n ≤ 100000 := by have := HL.out.1; omega
  have HA := Hid.mk (And.intro (fun j (hj : j < n) => H1.out.1.at (j := j) (by omega)) (And.intro (fun j (hj : j < n) => (show (ce S j).1.length ≤ 1000000 by rw [ce_get S (by omega)]; exact HL.out.2.1.mem _ (H1.out.2.1.mem_iff.1 (List.getElem_mem _)))) (And.intro (fun j (hj : j < n) => sum_under H1.out.2.2.1 (r := j) (by omega)) (fun j (hj : j < n) => sum_next (S := S) (r := j) (by omega)))))
  have HE := Hid.mk (show sumI (S.take n) = sumI L by rw [← hSn, List.take_length]; exact (sumI_perm H1.out.2.1.symm HL.out.2.2).symm)
  rw [hSn]
  clear hsl hSn hn
  go_loopw [3, 10] (fun x k wr => ∃ (r : Nat) (Z : List (Value × CE)), r ≤ n ∧ k = .int .i64 r ∧ Hid (Z.map Prod.snd = sumI (S.take r)) ∧ Z.length ≤ r ∧ PRow wr w1.heap.size x Z ∧ More w1 wr) (fun _ k _ => n - (intOf k).toNat)
  case atStart => exact ⟨0, [], by omega, rfl, Hid.mk rfl, by simp, PRow.nil _ _, More.refl _⟩
  case round =>
    obtain ⟨r, Z, hr, rfl, HZ, hzl, hP, hM⟩ := hrel
    obtain ⟨zo, zc, rfl⟩ := hP.shape
    by_cases hlt : r < n
    · obtain ⟨b, o, uo, uc, rfl, hb, c1, c2, i1⟩ := HA.out.1 r hlt
      have c1 := (hM.cell (p := ⟨b, o + r * 2, none⟩) hb).trans c1
      have c2 := (hM.cell (p := ⟨b, o + r * 2 + 1, none⟩) hb).trans c2
      have hcs := HA.out.2.1 r hlt
      have hnx := HA.out.2.2.2 r hlt
      have hun := HA.out.2.2.1 r hlt
      have i1 := i1.more hM
      obtain ⟨c, hc⟩ : ∃ c, ce S r = c := ⟨_, rfl⟩
      rw [hc] at c1 c2 i1 hcs hnx hun
      obtain ⟨f, N⟩ := c
      simp only at c1 c2 i1 hcs hun
      obtain ⟨fl, hfl⟩ : ∃ fl, f.length = fl := ⟨_, rfl⟩
      rw [hfl] at c1 i1
      have hrow := hP.row
      obtain ⟨zl, hzle⟩ : ∃ zl, Z.length = zl := ⟨_, rfl⟩
      rw [hzle] at hzl hrow hP ⊢
      have HLN := Hid.mk hzle
      have HR := Hid.mk hrow
      have HC := Hid.mk (And.intro hP (And.intro hM (And.intro i1 (And.intro hcs (And.intro hnx hun)))))
      have HFL := Hid.mk hfl
      clear hP hM i1 hcs hnx hun hb hc hfl hrow hzle
      by_cases h0 : zl = 0
      · subst h0
        have hZ0 : Z = [] := List.eq_nil_of_length_eq_zero HLN.out
        have HIN := Hid.mk (fun u : Value => show (Z ++ [((u, (f, N)) : Value × CE)]).map Prod.snd = sumI (S.take (r + 1)) by rw [HC.out.2.2.2.2.1, ← HZ.out, hZ0]; rfl)
        clear hZ0
        go_wp2_with fail
        obtain ⟨W, hW⟩ : ∃ W, wr.alloc (.cells #[.slice uo fl uc, .int .i64 N] 43) = W := ⟨_, rfl⟩
        have hB := heap_alloc_new wr (.cells #[.slice uo fl uc, .int .i64 N] 43)
        have hMW : More wr W := by rw [← hW]; exact more_alloc _ _
        rw [hW] at hB ⊢
        obtain ⟨b5, hb5⟩ : ∃ b5, wr.heap.size = b5 := ⟨_, rfl⟩
        rw [hb5] at hB ⊢
        obtain ⟨d0, d1, _, _⟩ := wcells2 hB
        have HW := Hid.mk (And.intro hMW (World.block_lt_of_cell? _ _ d1))
        have hcl := fun (W' : World) (hm : More W W') => cl_ints _ f W' (HC.out.2.2.1.more (More.trans hMW hm)) HC.out.2.2.2.1
        clear hW hB hMW hb5
        go_quiet (fail)
        obtain ⟨V, hV⟩ : ∃ V, W.drewN nq = V := ⟨_, rfl⟩
        rw [hV]
        have hMV : More W V := by rw [← hV]; exact More.drewN _ _
        have d0 := (hMV.cell (p := ⟨b5, 0, none⟩) HW.out.2).trans d0
        have d1 := (hMV.cell (p := ⟨b5, 1, none⟩) HW.out.2).trans d1
        have hcl := fun (W' : World) (hm : More V W') => hcl W' (More.trans hMV hm)
        have HV := Hid.mk (And.intro hMV (Nat.lt_of_lt_of_le HW.out.2 hMV.size))
        clear hMV hV
        have hszV : w1.heap.size ≤ V.heap.size := by have := HC.out.2.1.size; have := HW.out.1.size; have := HV.out.1.size; omega
        go_wp2_with fail
        go_region_law (first
          | (refine step_append_lies _ rfl (.tmp 40) (.tmp 47) 35 rfl w1.heap.size 43 i0 (.agg #[.slice none 0 0, .int .i64 0]) 2 32 Try.underlying35 hi hz0 hz1 hz2 rfl (by decide) _ _ _ rfl (More.own HR.out (More.trans HW.out.1 (More.trans HV.out.1 (More.trans H3.out.2 (more_alloc _ (.cells #[.slice vo3 fl vc3, .int .i64 N] 43)))))) ⟨w3.heap.size, 0, none⟩ 1 1 [.slice vo3 fl vc3, .int .i64 N] rfl rfl (two_cells_at _ _ _ _ _ (by simp)) (one_ce _ _ _ _) (by decide) (by unfold maxLen; omega) (by omega) (by have := H3.out.2.size; simp; omega) (w3.heap.size + 1) (by simp) ?_
             intro g4 cg4 w4 hown4 hg4 _ _
             have hma := More.trans HW.out.1 (More.trans HV.out.1 (More.trans H3.out.2 (more_alloc w3 (.cells #[.slice vo3 fl vc3, .int .i64 N] 43))))
             have H4 := Hid.mk (And.intro (HC.out.1.app hma (z := (.slice vo3 fl vc3, (f, N))) (H3.out.1.more (more_alloc _ _)) (by rw [HLN.out]; exact hown4) hg4) ((More.trans HC.out.2.1 hma).grown hg4 (by have := H3.out.2.size; simp; omega) (fun k hk => (HR.out.lt k hk).1)))
             clear hown4 hg4 hma)
          | (go_simp; go_at_call 29; refine (hcl _ (by first | exact More.refl _ | exact more_drew1 _ | exact More.drewN _ _)).mono ?_; rintro e w3 ⟨v3, rfl, hN3, hM3⟩; have hM3 := (show More V w3 from by first | exact hM3 | exact More.trans (more_drew1 _) hM3 | exact More.trans (More.drewN _ _) hM3); have e1 := (hM3.cell (p := ⟨b5, 1, none⟩) HV.out.2).trans d1; obtain ⟨vo3, vc3, hv3⟩ := hN3.shape; rw [HFL.out] at hv3; subst hv3; have H3 := Hid.mk (And.intro hN3 hM3); clear hN3 hM3))
        all_goals
          go_wp2
          go_roundw
          case rel => exact ⟨r + 1, Z ++ [(.slice vo3 fl vc3, (f, N))], by omega, by go_num, Hid.mk (HIN.out _), by rw [List.length_append, List.length_singleton, HLN.out]; omega, H4.out.1, H4.out.2⟩
          case measure => simp [intOf]; omega
      · obtain ⟨p, rfl⟩ : ∃ p, zl = p + 1 := ⟨zl - 1, by omega⟩
        obtain ⟨Y, y, hY⟩ := snoc_of Z (fun e => by have := HLN.out; rw [e] at this; simp at this)
        obtain ⟨u, g, x⟩ := y
        have hYl : Y.length = p := by have := HLN.out; rw [hY, List.length_append, List.length_singleton] at this; omega
        have hcy := cz_len Y
        obtain ⟨gz, rfl⟩ : ∃ gz, zo = some ⟨gz, 0, none⟩ := by
          rcases HR.out.2 with ⟨_, hn⟩ | ⟨gz, cap, cur, hv, _⟩
          · omega
          · exact ⟨gz, (Value.slice.inj hv).1⟩
        have z0 : wr.cell? ⟨gz, p * 2, none⟩ = some u := by
          rw [HR.out.cellAt (p * 2) (by omega), hY, cz_snoc, List.getElem?_append_right (by omega), hcy, hYl, Nat.sub_self]
          rfl
        have z1 : wr.cell? ⟨gz, p * 2 + 1, none⟩ = some (.int .i64 x) := by
          rw [HR.out.cellAt (p * 2 + 1) (by omega), hY, cz_snoc, List.getElem?_append_right (by omega), hcy, hYl, show p * 2 + 1 - p * 2 = 1 by omega]
          rfl
        have zf : wr.frozen? ⟨gz, p * 2 + 1, none⟩ = false := HR.out.frozenAt _
        obtain ⟨B', hNu⟩ := HC.out.1.ins (u, g, x) (by rw [hY]; simp)
        have hIu : IL wr u g := hNu.il
        obtain ⟨lo, lc, rfl⟩ := hIu.shape
        have hgs : g.length ≤ 1000000 := by
          have h1 : ((g, x) : CE) ∈ sumI (S.take r) := by rw [← HZ.out, hY]; simp
          obtain ⟨q, hq, e⟩ := sumI_key _ _ h1
          have e : g = q.1 := e
          rw [e]
          exact HL.out.2.1.mem _ (H1.out.2.1.mem_iff.1 (List.mem_of_mem_take hq))
        have hgf : cmpL g f ≤ 0 := HC.out.2.2.2.2.2 (g, x) (by rw [← HZ.out, hY]; simp)
        have hris : Ris (Y.map Prod.snd ++ [(g, x)]) := by
          have := sumI_ris (S.take r)
          rw [← HZ.out, hY] at this
          simpa using this
        have hyg : ∀ z ∈ Y.map Prod.snd, cmpL z.1 g < 0 := fun z hz => (List.pairwise_append.1 hris).2.2 z hz (g, x) (by simp)
        have hcm := fun (W' : World) (hm : More wr W') => gr_cmp _ _ g f W' (hIu.more hm) (HC.out.2.2.1.more hm) hgs HC.out.2.2.2.1
        obtain ⟨gl, hgl⟩ : ∃ gl, g.length = gl := ⟨_, rfl⟩
        obtain ⟨C, hCe⟩ : ∃ C, cmpL g f = C := ⟨_, rfl⟩
        simp only [hCe, hgl] at hcm
        rw [hgl] at z0
        have wl : ((p + 1 : Nat) : Int) - 1 = p := by omega
        have wp : IntKind.i64.wrap (p : Int) = p := by rw [wrap_i64]; omega
        have hpl : p ≤ 100000 := by omega
        by_cases hC0 : C = 0
        · have hIN : (Y ++ [((.slice lo gl lc, (g, add64 x N)) : Value × CE)]).map Prod.snd = sumI (S.take (r + 1)) := by
            rw [HC.out.2.2.2.2.1, ← HZ.out, hY, List.map_append, List.map_append]
            exact (ins_met _ (g, x) (f, N) hyg (by rw [← hC0]; exact hCe)).symm
          have hw : IntKind.i64.wrap (x + N) = add64 x N := rfl
          obtain ⟨A, hA⟩ : ∃ A, add64 x N = A := ⟨_, rfl⟩
          rw [hA] at hIN hw
          have HIN := Hid.mk (And.intro hIN (And.intro hY (And.intro hYl (And.intro hgl hCe))))
          clear hIN hA hyg hris hgf hgs hNu hIu hCe hY hcy
          subst hC0
          go_wp2_with fail
          obtain ⟨W, hW⟩ : ∃ W, wr.alloc (.cells #[.slice uo fl uc, .int .i64 N] 43) = W := ⟨_, rfl⟩
          have hB := heap_alloc_new wr (.cells #[.slice uo fl uc, .int .i64 N] 43)
          have hMW : More wr W := by rw [← hW]; exact more_alloc _ _
          rw [hW] at hB ⊢
          obtain ⟨b5, hb5⟩ : ∃ b5, wr.heap.size = b5 := ⟨_, rfl⟩
          rw [hb5] at hB ⊢
          obtain ⟨d0, d1, _, _⟩ := wcells2 hB
          have HW := Hid.mk (And.intro hMW (World.block_lt_of_cell? _ _ d1))
          have hcl := fun (W' : World) (hm : More W W') => cl_ints _ f W' (HC.out.2.2.1.more (More.trans hMW hm)) HC.out.2.2.2.1
          clear hW hB hMW hb5
          have z0 := (HW.out.1.cell (p := ⟨gz, p * 2, none⟩) (World.block_lt_of_cell? _ _ z0)).trans z0
          have z1 := (HW.out.1.cell (p := ⟨gz, p * 2 + 1, none⟩) (World.block_lt_of_cell? _ _ z1)).trans z1
          have zf : W.frozen? ⟨gz, p * 2 + 1, none⟩ = false := (HW.out.1.own HR.out).frozenAt _
          have hcm := fun q => hcm (W.drewN q) (More.trans HW.out.1 (More.drewN W q))
          go_quiet ((go_at_call 8; exact Calls.quiet_of_same (hcm _)))
          obtain ⟨V, hV⟩ : ∃ V, W.drewN nq = V := ⟨_, rfl⟩
          rw [hV]
          have hMV : More W V := by rw [← hV]; exact More.drewN _ _
          have d0 := (hMV.cell (p := ⟨b5, 0, none⟩) HW.out.2).trans d0
          have d1 := (hMV.cell (p := ⟨b5, 1, none⟩) HW.out.2).trans d1
          have hcl := fun (W' : World) (hm : More V W') => hcl W' (More.trans hMV hm)
          have HV := Hid.mk (And.intro hMV (Nat.lt_of_lt_of_le HW.out.2 hMV.size))
          clear hMV hV
          have hszV : w1.heap.size ≤ V.heap.size := by have := HC.out.2.1.size; have := HW.out.1.size; have := HV.out.1.size; omega
          have z1 := (HV.out.1.cell (p := ⟨gz, p * 2 + 1, none⟩) (World.block_lt_of_cell? _ _ z1)).trans z1
          have zf : V.frozen? ⟨gz, p * 2 + 1, none⟩ = false := ((More.trans HW.out.1 HV.out.1).own HR.out).frozenAt _
          have hPV := HC.out.1.more (More.trans HW.out.1 HV.out.1)
          rw [HIN.out.2.1] at hPV
          have hPS := hPV.setLast (by rw [HIN.out.2.2.1]) A
          rw [HIN.out.2.2.1] at hPS
          have hMS : More w1 (V.setCell ⟨gz, p * 2 + 1, none⟩ (.int .i64 A)) := (More.trans HC.out.2.1 (More.trans HW.out.1 HV.out.1)).grown (grown_at V gz (p * 2 + 1) (.int .i64 A)) (by have := HC.out.2.1.size; have := HW.out.1.size; have := HV.out.1.size; omega) (fun k hk => by simp at hk; rw [← hk]; exact (HR.out.lt gz rfl).1)
          have HN := Hid.mk (And.intro hPS hMS)
          clear hPV hPS hMS z0 hcm hcl
          go_wp2_with fail
          go_region_o
          all_goals (try go_wp2)
          all_goals exact ⟨⟨r + 1, Y ++ [(.slice lo gl lc, (g, A))], by omega, by go_num, Hid.mk HIN.out.1, by rw [List.length_append, List.length_singleton, HIN.out.2.2.1]; omega, by have := HN.out.1.more (more_drew1 _); rwa [HIN.out.2.2.2.1] at this, More.trans HN.out.2 (more_drew1 _)⟩, by simp [intOf]; omega⟩
        · have hneg : C < 0 := by omega
          have hnb : (C == 0) = false := by simpa using hC0
          have hIN : ∀ u : Value, (Z ++ [((u, (f, N)) : Value × CE)]).map Prod.snd = sumI (S.take (r + 1)) := fun u => by
            rw [HC.out.2.2.2.2.1, ← HZ.out, List.map_append, ins_last _ (f, N)]
            · rfl
            · intro z hz
              rw [hY, List.map_append] at hz
              rcases List.mem_append.1 hz with e | e
              · exact cmpL_trans (hyg z e) (by rw [hCe]; exact hneg)
              · simp at e
                rw [e]
                show cmpL g f < 0
                rw [hCe]; exact hneg
          have HIN := Hid.mk hIN
          clear hIN hyg hris hgf hgs hNu hIu hCe hY hcy hgl hC0 hYl
          go_wp2_with fail
          obtain ⟨W, hW⟩ : ∃ W, wr.alloc (.cells #[.slice uo fl uc, .int .i64 N] 43) = W := ⟨_, rfl⟩
          have hB := heap_alloc_new wr (.cells #[.slice uo fl uc, .int .i64 N] 43)
          have hMW : More wr W := by rw [← hW]; exact more_alloc _ _
          rw [hW] at hB ⊢
          obtain ⟨b5, hb5⟩ : ∃ b5, wr.heap.size = b5 := ⟨_, rfl⟩
          rw [hb5] at hB ⊢
          obtain ⟨d0, d1, _, _⟩ := wcells2 hB
          have HW := Hid.mk (And.intro hMW (World.block_lt_of_cell? _ _ d1))
          have hcl := fun (W' : World) (hm : More W W') => cl_ints _ f W' (HC.out.2.2.1.more (More.trans hMW hm)) HC.out.2.2.2.1
          clear hW hB hMW hb5
          have z0 := (HW.out.1.cell (p := ⟨gz, p * 2, none⟩) (World.block_lt_of_cell? _ _ z0)).trans z0
          have z1 := (HW.out.1.cell (p := ⟨gz, p * 2 + 1, none⟩) (World.block_lt_of_cell? _ _ z1)).trans z1
          have zf : W.frozen? ⟨gz, p * 2 + 1, none⟩ = false := (HW.out.1.own HR.out).frozenAt _
          have hcm := fun q => hcm (W.drewN q) (More.trans HW.out.1 (More.drewN W q))
          go_quiet ((go_at_call 8; exact Calls.quiet_of_same (hcm _)))
          obtain ⟨V, hV⟩ : ∃ V, W.drewN nq = V := ⟨_, rfl⟩
          rw [hV]
          have hMV : More W V := by rw [← hV]; exact More.drewN _ _
          have d0 := (hMV.cell (p := ⟨b5, 0, none⟩) HW.out.2).trans d0
          have d1 := (hMV.cell (p := ⟨b5, 1, none⟩) HW.out.2).trans d1
          have hcl := fun (W' : World) (hm : More V W') => hcl W' (More.trans hMV hm)
          have HV := Hid.mk (And.intro hMV (Nat.lt_of_lt_of_le HW.out.2 hMV.size))
          clear hMV hV
          have hszV : w1.heap.size ≤ V.heap.size := by have := HC.out.2.1.size; have := HW.out.1.size; have := HV.out.1.size; omega
          clear z0 z1 zf hcm
          go_wp2_with fail
          go_region_law (first
            | (refine step_append_lies _ rfl (.tmp 40) (.tmp 47) 35 rfl w1.heap.size 43 i0 (.agg #[.slice none 0 0, .int .i64 0]) 2 32 Try.underlying35 hi hz0 hz1 hz2 rfl (by decide) _ _ _ rfl (More.own HR.out (More.trans HW.out.1 (More.trans HV.out.1 (More.trans H3.out.2 (more_alloc _ (.cells #[.slice vo3 fl vc3, .int .i64 N] 43)))))) ⟨w3.heap.size, 0, none⟩ 1 1 [.slice vo3 fl vc3, .int .i64 N] rfl rfl (two_cells_at _ _ _ _ _ (by simp)) (one_ce _ _ _ _) (by decide) (by unfold maxLen; omega) (by omega) (by have := H3.out.2.size; simp; omega) (w3.heap.size + 1) (by simp) ?_
               intro g4 cg4 w4 hown4 hg4 _ _
               have hma := More.trans HW.out.1 (More.trans HV.out.1 (More.trans H3.out.2 (more_alloc w3 (.cells #[.slice vo3 fl vc3, .int .i64 N] 43))))
               have H4 := Hid.mk (And.intro (HC.out.1.app hma (z := (.slice vo3 fl vc3, (f, N))) (H3.out.1.more (more_alloc _ _)) (by rw [HLN.out]; exact hown4) hg4) ((More.trans HC.out.2.1 hma).grown hg4 (by have := H3.out.2.size; simp; omega) (fun k hk => (HR.out.lt k hk).1)))
               clear hown4 hg4 hma)
            | (go_simp; go_at_call 29; refine (hcl _ (by first | exact More.refl _ | exact more_drew1 _ | exact More.drewN _ _)).mono ?_; rintro e w3 ⟨v3, rfl, hN3, hM3⟩; have hM3 := (show More V w3 from by first | exact hM3 | exact More.trans (more_drew1 _) hM3 | exact More.trans (More.drewN _ _) hM3); have e1 := (hM3.cell (p := ⟨b5, 1, none⟩) HV.out.2).trans d1; obtain ⟨vo3, vc3, hv3⟩ := hN3.shape; rw [HFL.out] at hv3; subst hv3; have H3 := Hid.mk (And.intro hN3 hM3); clear hN3 hM3))
          all_goals
            go_wp2
            go_roundw
            case rel => exact ⟨r + 1, Z ++ [(.slice vo3 fl vc3, (f, N))], by omega, by go_num, Hid.mk (HIN.out _), by rw [List.length_append, List.length_singleton, HLN.out]; omega, H4.out.1, H4.out.2⟩
            case measure => simp [intOf]; omega
    · obtain rfl : r = n := by omega
      have hcl := hP.crow.cl (More.refl _)
      rw [HZ.out, HE.out] at hcl
      have HN := Hid.mk (And.intro hcl (More.trans H1.out.2.2.2 hM))
      clear hcl hP hM
      go_wp2
      go_ret
      exact ⟨_, rfl, HN.out.1, HN.out.2⟩
end Go.Proofs.Yteiegedffjkbeaa
