/-
  gram: the document's Put.
-/
import Derived.Test.YteiegedffjkbeaaGraG
namespace Go.Proofs.Yteiegedffjkbeaa
open Go.RowKit

theorem Try.infoCE : (Try.prog.info? 43).map (fun i => (i.zero, i.size, i.bytes)) = some (some (.agg #[.slice none 0 0, .int .i64 0]), 2, 32) := by kernel_rfl
/-- N-grams with their numbers as cells: two each. -/
def cz (Z : List (Value × CE)) : List Value := Z.flatMap fun z => [z.1, .int .i64 z.2.2]
theorem cz_len (Z : List (Value × CE)) : (cz Z).length = Z.length * 2 := by
  induction Z with
  | nil => rfl
  | cons z Z ih =>
    have e : cz (z :: Z) = z.1 :: .int .i64 z.2.2 :: cz Z := rfl
    rw [e]; simp only [List.length_cons, ih]; omega
theorem cz_app (Y Z : List (Value × CE)) : cz (Y ++ Z) = cz Y ++ cz Z := by simp [cz, List.flatMap_append]
theorem cz_snoc (Z : List (Value × CE)) (z : Value × CE) : cz (Z ++ [z]) = cz Z ++ [z.1, .int .i64 z.2.2] := by rw [cz_app]; rfl
theorem cz_get : ∀ (Z : List (Value × CE)) (j : Nat) (h : j < Z.length), (cz Z)[j * 2]? = some (Z[j]).1 ∧ (cz Z)[j * 2 + 1]? = some (.int .i64 (Z[j]).2.2)
  | [], j, h => by simp at h
  | z :: Z, 0, _ => ⟨rfl, rfl⟩
  | z :: Z, j + 1, h => by
    have e : cz (z :: Z) = z.1 :: .int .i64 z.2.2 :: cz Z := rfl
    rw [e, show (j + 1) * 2 = j * 2 + 1 + 1 by omega]
    simpa using cz_get Z j (by simpa using h)
/-- A row of n-grams of the call's own; the n-grams lie in the world w0. -/
structure CRow (w0 w : World) (B : Nat) (r : Value) (Z : List (Value × CE)) : Prop where
  row : w.ownsRow B 43 2 r Z.length (cz Z)
  ins : ∀ z ∈ Z, IL w0 z.1 z.2.1
theorem CRow.nil (w0 w : World) (B : Nat) : CRow w0 w B (.slice none 0 0) [] := ⟨World.ownsRow_nil _ _ _ _, fun _ h => by simp at h⟩
theorem CRow.more {w0 w w' : World} {B : Nat} {r : Value} {Z : List (Value × CE)} (h : CRow w0 w B r Z) (k : More w w') : CRow w0 w' B r Z := ⟨k.own h.row, h.ins⟩
theorem CRow.base {w0 w : World} {B B' : Nat} {r : Value} {Z : List (Value × CE)} (h : CRow w0 w B r Z) (k : B' ≤ B) : CRow w0 w B' r Z :=
  ⟨⟨h.row.1, h.row.2.imp id fun ⟨g, cap, cur, hv, hb, rest⟩ => ⟨g, cap, cur, hv, Nat.le_trans k hb, rest⟩⟩, h.ins⟩
theorem CRow.shape {w0 w : World} {B : Nat} {r : Value} {Z : List (Value × CE)} (h : CRow w0 w B r Z) : ∃ ao cap, r = .slice ao Z.length cap := by
  rcases h.row.2 with ⟨hv, hn⟩ | ⟨g, cap, _, hv, _⟩
  · exact ⟨none, 0, by rw [hv, hn]⟩
  · exact ⟨_, _, hv⟩
theorem CRow.cl {w0 w : World} {B : Nat} {r : Value} {Z : List (Value × CE)} (h : CRow w0 w B r Z) (k : More w0 w) : CL w r (Z.map Prod.snd) := by
  have hlen := cz_len Z
  rcases h.row.2 with ⟨hv, hn⟩ | ⟨g, cap, cur, hv, h1, h2, h3, h4, h5, h6⟩
  · exact .inl ⟨by rw [List.length_map]; exact hn, none, 0, hv⟩
  · refine .inr ⟨g, 0, cap, by rw [List.length_map]; exact hv, lt_of_block h2, fun j hj => ?_⟩
    rw [List.length_map] at hj
    obtain ⟨e1, e2⟩ := cz_get Z j hj
    have hr := h.row
    rw [hv] at hr
    have ee : ce (Z.map Prod.snd) j = Z[j].2 := by simp [ce, List.getD, hj]
    refine ⟨Z[j].1, ?_, ?_, ?_⟩
    · rw [Nat.zero_add, hr.cellAt (j * 2) (by omega), e1]
    · rw [Nat.zero_add, hr.cellAt (j * 2 + 1) (by omega), e2, ee]
    · rw [ee]; exact (h.ins _ (List.getElem_mem hj)).more k

theorem CRow.app {w0 W W' : World} {B : Nat} {v v' : Value} {Z : List (Value × CE)} {z : Value × CE} (h : CRow w0 W B v Z) (hz : IL w0 z.1 z.2.1) (hown : W'.ownsRow B 43 2 v' (Z.length + 1) (cz Z ++ [z.1, .int .i64 z.2.2])) : CRow w0 W' B v' (Z ++ [z]) :=
  ⟨by rw [List.length_append, cz_snoc]; exact hown, fun y hy => by
    rcases List.mem_append.1 hy with e | e
    · exact h.ins y e
    · simp at e; rw [e]; exact hz⟩
theorem CRow.turned {w0 w1 W Wa W' : World} {v : Value} {B : Nat} {Z : List (Value × CE)} (h : CRow w0 W B v Z) (hM : More w1 Wa) (hB : w1.heap.size ≤ B) (hg : Wa.grownBy W' v.ownBlock) : More w1 W' :=
  hM.grown hg hM.size (fun k hk => Nat.le_trans hB (h.row.lt k hk).1)
theorem two_cells (w : World) (u v : Value) (e : TypeId) : ∀ (j : Nat) x, [u, v][j]? = some x → (w.alloc (.cells #[u, v] e)).cell? ((⟨w.heap.size, 0, none⟩ : Addr).add j) = some x := by
  intro j x hj
  match j, hj with
  | 0, hj => simp at hj; subst hj; simp [Addr.add]
  | 1, hj => simp at hj; subst hj; simp [Addr.add]
theorem two_cells_at (w : World) (u v : Value) (e : TypeId) (b : Nat) (hb : b = w.heap.size) : ∀ (j : Nat) x, [u, v][j]? = some x → (w.alloc (.cells #[u, v] e)).cell? ((⟨b, 0, none⟩ : Addr).add j) = some x := by
  subst hb; exact two_cells w u v e
theorem one_ce (a : Option Addr) (n c : Nat) (x : Int) : ∀ u ∈ [Value.slice a n c, Value.int .i64 x], u.oneCell' = true := by
  intro u hu
  simp at hu
  rcases hu with rfl | rfl <;> rfl

set_option maxRecDepth 1000000 in
set_option maxHeartbeats 4000000 in
theorem rf_put (v u : Value) (L : List CE) (x : CE) (w : World) (h : CL w v L) (hu : IL w u x.1) (hl : L.length ≤ 100000) (hs : Sht L) (hx : x.1.length ≤ 1000000) :
    Calls Try.prog 30 #[v, .agg #[u, .int .i64 x.2]] w fun e w' => ∃ r Z, e = .returned r ∧ Z.map Prod.snd = putL L x false ∧ CRow w w' w.heap.size r Z ∧ More w w' := by
  obtain ⟨i0, hi, hz0, hz1, hz2⟩ := info_parts Try.infoCE
  obtain ⟨ao, cap, rfl⟩ := h.shape
  obtain ⟨uo, uc, rfl⟩ := hu.shape
  obtain ⟨n, hnn⟩ : ∃ n, L.length = n := ⟨_, rfl⟩
  have HA := Hid.mk (And.intro (fun j (hj : j < n) => h.at (j := j) (by omega)) (And.intro (fun j (hj : j < n) => hs j (by omega)) (And.intro hu hx)))
  have HD := Hid.mk (And.intro (fun j (hj : j < n) => (show L.drop j = ce L j :: L.drop (j + 1) by rw [List.drop_eq_getElem_cons (by omega), ce_get L (by omega)])) (show L.drop n = [] by rw [← hnn, List.drop_length]))
  rw [hnn] at hl ⊢
  obtain ⟨g, m⟩ := x
  simp only at HA hu hx ⊢
  obtain ⟨P, hP⟩ : ∃ P, putL L (g, m) false = P := ⟨_, rfl⟩
  have HP := Hid.mk hP
  rw [hP]
  obtain ⟨gl, hgl⟩ : ∃ gl, g.length = gl := ⟨_, rfl⟩
  rw [hgl] at HA ⊢
  clear h hs hu hx hnn hP
  go_enter Try.func30, Try.ntmps30
  go_wp2
  obtain ⟨w1, hw1⟩ : ∃ w1, w.alloc (.cells #[.slice uo gl uc, .int .i64 m] 43) = w1 := ⟨_, rfl⟩
  have hB := heap_alloc_new w (.cells #[.slice uo gl uc, .int .i64 m] 43)
  have hM1 : More w w1 := by rw [← hw1]; exact more_alloc _ _
  rw [hw1] at hB ⊢
  obtain ⟨B0, hB0⟩ : ∃ B0, w.heap.size = B0 := ⟨_, rfl⟩
  have hsz1 : w1.heap.size = B0 + 1 := by rw [← hw1, ← hB0]; simp
  rw [hB0] at hB ⊢
  have H1 := Hid.mk (And.intro hM1 (And.intro hB (And.intro hB0 hsz1)))
  clear hw1 hB hM1 hB0 hsz1
  go_loopw [5, 6, 7] (fun x y k wr => ∃ (r : Nat) (b : Bool) (Z : List (Value × CE)), r ≤ n ∧ k = .int .i64 r ∧ y = .bool b ∧ Hid (Z.map Prod.snd ++ putL (L.drop r) (g, m) b = P) ∧ Z.length ≤ 2 * r ∧ CRow w wr (B0 + 1) x Z ∧ More w1 wr) (fun _ _ k _ => n - (intOf k).toNat)
  case atStart => exact ⟨0, false, [], by omega, rfl, rfl, Hid.mk HP.out, by simp, CRow.nil _ _ _, More.refl _⟩
  case round =>
    obtain ⟨r, lb, Z, hr, rfl, rfl, HZ, hzl, hC, hM⟩ := hrel
    obtain ⟨zo, zc, rfl⟩ := hC.shape
    obtain ⟨cb0, cb1, fb0, fb1⟩ := wcells2 (hM.at H1.out.2.1)
    by_cases hlt : r < n
    · obtain ⟨b, o, vo, vc, rfl, hb, c1, c2, i1⟩ := HA.out.1 r hlt
      have hMw := More.trans H1.out.1 hM
      have e1 := c1
      have e2 := c2
      have c1 := (hMw.cell (p := ⟨b, o + r * 2, none⟩) hb).trans c1
      have c2 := (hMw.cell (p := ⟨b, o + r * 2 + 1, none⟩) hb).trans c2
      have hcm := fun q => rf_cmp _ _ _ _ (wr.drewN q) ((i1.more hMw).drawn q) ((HA.out.2.2.1.more hMw).drawn q) (HA.out.2.1 r hlt) (by rw [hgl]; exact HA.out.2.2.2)
      rw [HD.out.1 r hlt] at HZ
      obtain ⟨z, hz⟩ : ∃ z, ce L r = z := ⟨_, rfl⟩
      rw [hz] at HZ hcm c1 c2 i1 e1 e2
      obtain ⟨f, N⟩ := z
      obtain ⟨C, hCe⟩ : ∃ C, cmpL f g = C := ⟨_, rfl⟩
      simp only [putL, hCe] at HZ hcm c1 c2 i1 e1 e2
      obtain ⟨fl, hfl⟩ : ∃ fl, f.length = fl := ⟨_, rfl⟩
      rw [hfl] at c1 hcm i1 e1
      have HI := Hid.mk (And.intro hz (And.intro i1 (And.intro hb (And.intro e1 e2))))
      have HC := Hid.mk (And.intro hC hM)
      clear hz i1 hfl hC hM hb hMw e1 e2
      by_cases hneg : C < 0
      · rw [if_neg (by omega), if_neg (by omega), show decide (0 ≤ C) = false by simp; omega] at HZ
        go_wp2_with fail
        go_quiet ((go_at_call 9; exact Calls.quiet_of (hcm _)))
        obtain ⟨W, hW⟩ : ∃ W, wr.drewN nq = W := ⟨_, rfl⟩
        rw [hW]
        have hMW : More wr W := by rw [← hW]; exact More.drewN _ _
        have c1 := (hMW.cell (p := ⟨b, o + r * 2, none⟩) (World.block_lt_of_cell? _ _ c1)).trans c1
        have c2 := (hMW.cell (p := ⟨b, o + r * 2 + 1, none⟩) (World.block_lt_of_cell? _ _ c2)).trans c2
        have HC := Hid.mk (And.intro (HC.out.1.more hMW) (More.trans HC.out.2 hMW))
        obtain ⟨cb0, cb1, fb0, fb1⟩ := wcells2 (HC.out.2.at H1.out.2.1)
        clear hMW hW
        go_wp2_with (at_builtin; refine wpList_append_own_at _ rfl (.tmp 46) (.tmp 48) 35 rfl (B0 + 1) 43 i0 (.agg #[.slice none 0 0, .int .i64 0]) 2 32 Try.underlying35 hi hz0 hz1 hz2 rfl (by decide) _ _ _ rfl (More.own HC.out.1.row (More.trans (more_alloc W (.cells #[.slice vo fl vc, .int .i64 N] 43)) (more_alloc _ (.cells #[.slice vo fl vc, .int .i64 N] 43)))) ⟨W.heap.size + 1, 0, none⟩ 1 1 [.slice vo fl vc, .int .i64 N] rfl rfl (two_cells_at _ _ _ _ _ (by simp)) (one_ce _ _ _ _) ?c3 ?c4 ?c5 ?_)
        case c3 => unfold maxLen; omega
        case c4 => omega
        case c5 => have := HC.out.2.size; have := H1.out.2.2.2; simp; omega
        intro v' w4 hown4 hgrow _ _
        have HN := Hid.mk (And.intro (HC.out.1.app (z := (.slice vo fl vc, (f, N))) HI.out.2.1 hown4) (HC.out.1.turned (More.trans HC.out.2 (More.trans (more_alloc W _) (more_alloc _ _))) (by rw [H1.out.2.2.2]; exact Nat.le_refl _) hgrow))
        obtain ⟨ao4, cap4, rfl⟩ := HN.out.1.shape
        clear hown4 hgrow
        go_wp2
        go_roundw
        case rel => exact ⟨r + 1, lb, Z ++ [(.slice vo fl vc, (f, N))], by omega, by go_num, rfl, Hid.mk (by rw [← HZ.out]; simp), by simp; omega, HN.out.1, HN.out.2⟩
        case measure => simp [intOf]; omega
      · by_cases hz0c : C = 0
        · subst hz0c
          rw [if_neg (by omega), if_pos (by trivial), show (lb || decide ((0 : Int) ≤ 0)) = true by simp] at HZ
          obtain ⟨A, hA⟩ : ∃ A, add64 N m = A := ⟨_, rfl⟩
          rw [hA] at HZ
          have hw : IntKind.i64.wrap (N + m) = A := hA
          clear hA
          go_wp2_with fail
          go_quiet ((go_at_call 9; exact Calls.quiet_of (hcm _)))
          obtain ⟨W, hW⟩ : ∃ W, wr.drewN nq = W := ⟨_, rfl⟩
          rw [hW]
          have hMW : More wr W := by rw [← hW]; exact More.drewN _ _
          have c1 := (hMW.cell (p := ⟨b, o + r * 2, none⟩) (World.block_lt_of_cell? _ _ c1)).trans c1
          have c2 := (hMW.cell (p := ⟨b, o + r * 2 + 1, none⟩) (World.block_lt_of_cell? _ _ c2)).trans c2
          have HC := Hid.mk (And.intro (HC.out.1.more hMW) (More.trans HC.out.2 hMW))
          obtain ⟨cb0, cb1, fb0, fb1⟩ := wcells2 (HC.out.2.at H1.out.2.1)
          clear hMW hW
          have cbx : (W.alloc (.cells #[.slice vo fl vc, .int .i64 N] 43)).cell? ⟨B0, 1, none⟩ = some (.int .i64 m) := by rw [World.cell?_alloc_past _ _ _ (World.block_lt_of_cell? _ _ cb1)]; exact cb1
          go_wp2_with (at_builtin; refine wpList_append_own_at _ rfl (.tmp 46) (.tmp 48) 35 rfl (B0 + 1) 43 i0 (.agg #[.slice none 0 0, .int .i64 0]) 2 32 Try.underlying35 hi hz0 hz1 hz2 rfl (by decide) _ _ _ rfl (More.own HC.out.1.row (More.trans (more_alloc W (.cells #[.slice vo fl vc, .int .i64 A] 43)) (more_alloc _ (.cells #[.slice vo fl vc, .int .i64 A] 43)))) ⟨W.heap.size + 1, 0, none⟩ 1 1 [.slice vo fl vc, .int .i64 A] rfl rfl (two_cells_at _ _ _ _ _ (by simp)) (one_ce _ _ _ _) ?c3 ?c4 ?c5 ?_)
          case c3 => unfold maxLen; omega
          case c4 => omega
          case c5 => have := HC.out.2.size; have := H1.out.2.2.2; simp; omega
          intro v' w4 hown4 hgrow _ _
          have HN := Hid.mk (And.intro (HC.out.1.app (z := (.slice vo fl vc, (f, A))) HI.out.2.1 hown4) (HC.out.1.turned (More.trans HC.out.2 (More.trans (more_alloc W _) (more_alloc _ _))) (by rw [H1.out.2.2.2]; exact Nat.le_refl _) hgrow))
          obtain ⟨ao4, cap4, rfl⟩ := HN.out.1.shape
          clear hown4 hgrow
          go_wp2
          go_roundw
          case rel => exact ⟨r + 1, true, Z ++ [(.slice vo fl vc, (f, A))], by omega, by go_num, rfl, Hid.mk (by rw [← HZ.out]; simp), by simp; omega, HN.out.1, HN.out.2⟩
          case measure => simp [intOf]; omega
        · have hpos : 0 < C := by omega
          have hpb : (C == 0) = false := by simpa using hz0c
          cases lb with
          | true =>
            rw [if_neg (by simp), if_neg hz0c, Bool.true_or] at HZ
            go_wp2_with fail
            go_quiet ((go_at_call 9; exact Calls.quiet_of (hcm _)))
            obtain ⟨W, hW⟩ : ∃ W, wr.drewN nq = W := ⟨_, rfl⟩
            rw [hW]
            have hMW : More wr W := by rw [← hW]; exact More.drewN _ _
            have c1 := (hMW.cell (p := ⟨b, o + r * 2, none⟩) (World.block_lt_of_cell? _ _ c1)).trans c1
            have c2 := (hMW.cell (p := ⟨b, o + r * 2 + 1, none⟩) (World.block_lt_of_cell? _ _ c2)).trans c2
            have HC := Hid.mk (And.intro (HC.out.1.more hMW) (More.trans HC.out.2 hMW))
            obtain ⟨cb0, cb1, fb0, fb1⟩ := wcells2 (HC.out.2.at H1.out.2.1)
            clear hMW hW
            go_wp2_with (at_builtin; refine wpList_append_own_at _ rfl (.tmp 46) (.tmp 48) 35 rfl (B0 + 1) 43 i0 (.agg #[.slice none 0 0, .int .i64 0]) 2 32 Try.underlying35 hi hz0 hz1 hz2 rfl (by decide) _ _ _ rfl (More.own HC.out.1.row (More.trans (more_alloc W (.cells #[.slice vo fl vc, .int .i64 N] 43)) (more_alloc _ (.cells #[.slice vo fl vc, .int .i64 N] 43)))) ⟨W.heap.size + 1, 0, none⟩ 1 1 [.slice vo fl vc, .int .i64 N] rfl rfl (two_cells_at _ _ _ _ _ (by simp)) (one_ce _ _ _ _) ?c3 ?c4 ?c5 ?_)
            case c3 => unfold maxLen; omega
            case c4 => omega
            case c5 => have := HC.out.2.size; have := H1.out.2.2.2; simp; omega
            intro v' w4 hown4 hgrow _ _
            have HN := Hid.mk (And.intro (HC.out.1.app (z := (.slice vo fl vc, (f, N))) HI.out.2.1 hown4) (HC.out.1.turned (More.trans HC.out.2 (More.trans (more_alloc W _) (more_alloc _ _))) (by rw [H1.out.2.2.2]; exact Nat.le_refl _) hgrow))
            obtain ⟨ao4, cap4, rfl⟩ := HN.out.1.shape
            clear hown4 hgrow
            go_wp2
            go_roundw
            case rel => exact ⟨r + 1, true, Z ++ [(.slice vo fl vc, (f, N))], by omega, by go_num, rfl, Hid.mk (by rw [← HZ.out]; simp), by simp; omega, HN.out.1, HN.out.2⟩
            case measure => simp [intOf]; omega
          | false =>
            rw [if_pos ⟨hpos, rfl⟩, if_neg hz0c, show (false || decide (0 ≤ C)) = true by simp; omega] at HZ
            go_wp2_with fail
            go_quiet ((go_at_call 9; exact Calls.quiet_of (hcm _)))
            obtain ⟨W, hW⟩ : ∃ W, wr.drewN nq = W := ⟨_, rfl⟩
            rw [hW]
            have hMW : More wr W := by rw [← hW]; exact More.drewN _ _
            have c1 := (hMW.cell (p := ⟨b, o + r * 2, none⟩) (World.block_lt_of_cell? _ _ c1)).trans c1
            have c2 := (hMW.cell (p := ⟨b, o + r * 2 + 1, none⟩) (World.block_lt_of_cell? _ _ c2)).trans c2
            have HC := Hid.mk (And.intro (HC.out.1.more hMW) (More.trans HC.out.2 hMW))
            obtain ⟨cb0, cb1, fb0, fb1⟩ := wcells2 (HC.out.2.at H1.out.2.1)
            clear hMW hW
            go_wp2_with (at_builtin; refine wpList_append_own_at _ rfl (.tmp 30) (.tmp 32) 35 rfl (B0 + 1) 43 i0 (.agg #[.slice none 0 0, .int .i64 0]) 2 32 Try.underlying35 hi hz0 hz1 hz2 rfl (by decide) _ _ _ rfl (More.own HC.out.1.row (more_alloc W (.cells #[.slice uo gl uc, .int .i64 m] 43))) ⟨W.heap.size, 0, none⟩ 1 1 [.slice uo gl uc, .int .i64 m] rfl rfl (two_cells_at _ _ _ _ _ (by simp)) (one_ce _ _ _ _) ?c3 ?c4 ?c5 ?_)
            case c3 => unfold maxLen; omega
            case c4 => omega
            case c5 => have := HC.out.2.size; have := H1.out.2.2.2; simp; omega
            intro v' w4 hown4 hgrow _ _
            have hCx := HC.out.1.app (z := (.slice uo gl uc, (g, m))) HA.out.2.2.1 hown4
            have hMx := HC.out.1.turned (More.trans HC.out.2 (more_alloc W (.cells #[.slice uo gl uc, .int .i64 m] 43))) (by rw [H1.out.2.2.2]; exact Nat.le_refl _) hgrow
            have hMx2 := More.trans H1.out.1 hMx
            have d1 := (hMx2.cell (p := ⟨b, o + r * 2, none⟩) HI.out.2.2.1).trans HI.out.2.2.2.1
            have d2 := (hMx2.cell (p := ⟨b, o + r * 2 + 1, none⟩) HI.out.2.2.1).trans HI.out.2.2.2.2
            have hzl2 : (Z ++ [((.slice uo gl uc, (g, m)) : Value × CE)]).length ≤ 2 * r + 1 := by simp; omega
            have HZ := Hid.mk (show (Z ++ [((.slice uo gl uc, (g, m)) : Value × CE)]).map Prod.snd ++ ((f, N) :: putL (L.drop (r + 1)) (g, m) true) = P by rw [← HZ.out]; simp)
            obtain ⟨Z2, hZ2⟩ : ∃ Z2, Z ++ [((.slice uo gl uc, (g, m)) : Value × CE)] = Z2 := ⟨_, rfl⟩
            rw [hZ2] at hCx HZ hzl2
            obtain ⟨ao4, cap4, rfl⟩ := hCx.shape
            have HC := Hid.mk (And.intro hCx hMx)
            clear hCx hMx hMx2 hown4 hgrow c1 c2 cb0 cb1 fb0 fb1 hZ2
            go_wp2_with (at_builtin; refine wpList_append_own_at _ rfl (.tmp 46) (.tmp 48) 35 rfl (B0 + 1) 43 i0 (.agg #[.slice none 0 0, .int .i64 0]) 2 32 Try.underlying35 hi hz0 hz1 hz2 rfl (by decide) _ _ _ rfl (More.own HC.out.1.row (More.trans (more_alloc w4 (.cells #[.slice vo fl vc, .int .i64 N] 43)) (more_alloc _ (.cells #[.slice vo fl vc, .int .i64 N] 43)))) ⟨w4.heap.size + 1, 0, none⟩ 1 1 [.slice vo fl vc, .int .i64 N] rfl rfl (two_cells_at _ _ _ _ _ (by simp)) (one_ce _ _ _ _) ?c3 ?c4 ?c5 ?_)
            case c3 => unfold maxLen; omega
            case c4 => omega
            case c5 => have := HC.out.2.size; have := H1.out.2.2.2; simp; omega
            intro v5 w5 hown5 hgrow5 _ _
            have HN := Hid.mk (And.intro (HC.out.1.app (z := (.slice vo fl vc, (f, N))) HI.out.2.1 hown5) (HC.out.1.turned (More.trans HC.out.2 (More.trans (more_alloc w4 _) (more_alloc _ _))) (by rw [H1.out.2.2.2]; exact Nat.le_refl _) hgrow5))
            obtain ⟨ao5, cap5, rfl⟩ := HN.out.1.shape
            clear hown5 hgrow5
            go_wp2
            go_roundw
            case rel => exact ⟨r + 1, true, Z2 ++ [(.slice vo fl vc, (f, N))], by omega, by go_num, rfl, Hid.mk (by rw [← HZ.out]; simp), by simp; omega, HN.out.1, HN.out.2⟩
            case measure => simp [intOf]; omega
    · obtain rfl : r = n := by omega
      rw [HD.out.2] at HZ
      have HC := Hid.mk (And.intro hC hM)
      clear hC hM
      cases lb with
      | true =>
        simp only [putL, if_true, List.append_nil] at HZ
        go_wp2
        go_ret
        exact ⟨_, Z, rfl, HZ.out, HC.out.1.base (by rw [H1.out.2.2.1]; omega), More.trans H1.out.1 HC.out.2⟩
      | false =>
        simp only [putL] at HZ
        rw [if_neg (by simp)] at HZ
        go_wp2_with (at_builtin; refine wpList_append_own_at _ rfl (.tmp 52) (.tmp 54) 35 rfl (B0 + 1) 43 i0 (.agg #[.slice none 0 0, .int .i64 0]) 2 32 Try.underlying35 hi hz0 hz1 hz2 rfl (by decide) _ _ _ rfl (More.own HC.out.1.row (more_alloc wr (.cells #[.slice uo gl uc, .int .i64 m] 43))) ⟨wr.heap.size, 0, none⟩ 1 1 [.slice uo gl uc, .int .i64 m] rfl rfl (two_cells_at _ _ _ _ _ (by simp)) (one_ce _ _ _ _) ?c3 ?c4 ?c5 ?_)
        case c3 => unfold maxLen; omega
        case c4 => omega
        case c5 => have := HC.out.2.size; have := H1.out.2.2.2; simp; omega
        intro v' w4 hown4 hgrow _ _
        have HN := Hid.mk (And.intro (HC.out.1.app (z := (.slice uo gl uc, (g, m))) HA.out.2.2.1 hown4) (HC.out.1.turned (More.trans HC.out.2 (more_alloc wr (.cells #[.slice uo gl uc, .int .i64 m] 43))) (by rw [H1.out.2.2.2]; exact Nat.le_refl _) hgrow))
        obtain ⟨ao4, cap4, rfl⟩ := HN.out.1.shape
        clear hown4 hgrow
        go_wp2
        go_ret
        exact ⟨_, Z ++ [(.slice uo gl uc, (g, m))], rfl, by rw [← HZ.out]; simp, HN.out.1.base (by rw [H1.out.2.2.1]; omega), More.trans H1.out.1 HN.out.2⟩
end Go.Proofs.Yteiegedffjkbeaa
