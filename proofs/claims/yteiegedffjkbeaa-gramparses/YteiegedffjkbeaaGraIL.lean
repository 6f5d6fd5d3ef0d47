/-
  Lists of ints in memory; the document's Ints, slices.Clone over ints (for seats without window).
-/
import Derived.Test.YteiegedffjkbeaaTokMem
namespace Go.Proofs.Yteiegedffjkbeaa
open Go.RowKit

theorem Try.infoInt : (Try.prog.info? 3).map (fun i => (i.zero, i.size, i.bytes)) = some (some (.int .i64 0), 1, 8) := by kernel_rfl
theorem drewN_two (w : World) (m k : Nat) : (w.drewN m).drewN k = w.drewN (m + k) := by simp [World.drewN, Nat.add_assoc]
theorem one_num (x : Int) : ∀ u ∈ [Value.int .i64 x], u.oneCell' = true := by intro u hu; simp at hu; subst hu; rfl
/-- Lists that have the same numbers. -/
theorem int_lists {l m : List Int} (hl : l.length = m.length) (h : ∀ j, j < l.length → l.getD j 0 = m.getD j 0) : l = m := by
  apply List.ext_getElem hl
  intro j h1 h2
  have := h j h1
  simpa [List.getD, List.getElem?_eq_getElem h1, List.getElem?_eq_getElem h2] using this
/-- Ints as values. -/
def zs (l : List Int) : List Value := l.map fun x => .int .i64 x
theorem zs_len (l : List Int) : (zs l).length = l.length := by simp [zs]
theorem zs_snoc (l : List Int) (x : Int) : zs (l ++ [x]) = zs l ++ [.int .i64 x] := by simp [zs]
theorem zs_app (l m : List Int) : zs (l ++ m) = zs l ++ zs m := by simp [zs]
theorem zs_get (l : List Int) (k : Nat) (h : k < l.length) : (zs l)[k]? = some (.int .i64 (l.getD k 0)) := by
  simp [zs, List.getD, List.getElem?_eq_getElem h]
theorem zs_one (l : List Int) : ∀ u ∈ zs l, u.oneCell' = true := by
  intro u hu; simp [zs] at hu; obtain ⟨_, _, rfl⟩ := hu; rfl
theorem zs_set (l : List Int) (k : Nat) (x : Int) : (zs l).set k (.int .i64 x) = zs (l.set k x) := by simp [zs, List.map_set]
/-- A list of ints as read. -/
def IL (w : World) (v : Value) (l : List Int) : Prop :=
  (l.length = 0 ∧ ∃ ao cap, v = .slice ao 0 cap) ∨ ∃ b o cap, v = .slice (some ⟨b, o, none⟩) l.length cap ∧ b < w.heap.size ∧ ∀ j, j < l.length → w.cell? ⟨b, o + j, none⟩ = some (.int .i64 (l.getD j 0))
theorem IL.more {w w' : World} {v : Value} {l : List Int} (h : IL w v l) (k : More w w') : IL w' v l := by
  rcases h with h | ⟨b, o, cap, rfl, hb, hc⟩
  · exact .inl h
  · exact .inr ⟨b, o, cap, rfl, Nat.lt_of_lt_of_le hb k.size, fun j hj => (k.cell hb).trans (hc j hj)⟩
theorem IL.drawn {w : World} {v : Value} {l : List Int} (h : IL w v l) (m : Nat) : IL (w.drewN m) v l := h.more (More.drewN w m)
theorem IL.shape {w : World} {v : Value} {l : List Int} (h : IL w v l) : ∃ ao cap, v = .slice ao l.length cap := by
  rcases h with ⟨h0, ao, cap, rfl⟩ | ⟨b, o, cap, rfl, _⟩
  · exact ⟨ao, cap, by rw [h0]⟩
  · exact ⟨_, _, rfl⟩
theorem IL.nil (w : World) (ao : Option Addr) (c : Nat) : IL w (.slice ao 0 c) [] := .inl ⟨rfl, _, _, rfl⟩
theorem IL.form {w : World} {v : Value} {l : List Int} (h : IL w v l) (h0 : 0 < l.length) : ∃ b o cap, v = .slice (some ⟨b, o, none⟩) l.length cap ∧ b < w.heap.size ∧ ∀ j, j < l.length → w.cell? ⟨b, o + j, none⟩ = some (.int .i64 (l.getD j 0)) := by
  rcases h with ⟨h, _⟩ | h
  · omega
  · exact h
/-- A row of ints of the call's own. -/
def NL (w : World) (B : Nat) (v : Value) (l : List Int) : Prop := w.ownsRow B 3 1 v l.length (zs l)
theorem NL.more {w w' : World} {B : Nat} {v : Value} {l : List Int} (h : NL w B v l) (k : More w w') : NL w' B v l := k.own h
theorem NL.nil (w : World) (B : Nat) : NL w B (.slice none 0 0) [] := World.ownsRow_nil _ _ _ _
theorem NL.shape {w : World} {B : Nat} {v : Value} {l : List Int} (h : NL w B v l) : ∃ ao cap, v = .slice ao l.length cap := wshape_of h
theorem NL.base {w : World} {B B' : Nat} {v : Value} {l : List Int} (h : NL w B v l) (k : B' ≤ B) : NL w B' v l :=
  ⟨h.1, h.2.imp id fun ⟨g, cap, cur, hv, hb, rest⟩ => ⟨g, cap, cur, hv, Nat.le_trans k hb, rest⟩⟩
theorem NL.il {w : World} {B : Nat} {v : Value} {l : List Int} (h : NL w B v l) : IL w v l := by
  rcases h.2 with ⟨hv, hn⟩ | ⟨g, cap, cur, hv, h1, h2, h3, h4, h5, h6⟩
  · exact .inl ⟨hn, none, 0, hv⟩
  · subst hv
    refine .inr ⟨g, 0, cap, rfl, lt_of_block h2, fun j hj => ?_⟩
    rw [Nat.zero_add, h.cellAt j (by omega), zs_get l j hj]
theorem NL.form {w : World} {B : Nat} {v : Value} {l : List Int} (h : NL w B v l) (h0 : 0 < l.length) : ∃ g cap, v = .slice (some ⟨g, 0, none⟩) l.length cap ∧ B ≤ g := by
  rcases h.2 with ⟨hv, hn⟩ | ⟨g, cap, cur, hv, h1, h2, h3, h4, h5, h6⟩
  · omega
  · exact ⟨g, cap, hv, h1⟩
theorem int_dec (x y : Int) : (x != y) = !decide (x = y) := by
  by_cases h : x = y
  · subst h; simp
  · simp [h]

set_option maxRecDepth 1000000 in
set_option maxHeartbeats 3200000 in
theorem rf_intsD (va vb : Value) (ts us : List Int) (w : World) (ha : IL w va ts) (hb : IL w vb us) (hn : ts.length ≤ 1000000) :
    Calls Try.prog 15 #[va, vb] w fun e w' => e = .returned (.bool (decide (ts = us))) ∧ ∃ m, w' = w.drewN m := by
  by_cases hl : ts.length = us.length
  · by_cases h0 : ts.length = 0
    · obtain ⟨ao, ca, rfl⟩ := ha.shape
      obtain ⟨bo, cb, rfl⟩ := hb.shape
      have hD : Hid (decide (ts = us) = true) := Hid.mk (decide_eq_true (int_lists hl fun j hj => by omega))
      generalize decide (ts = us) = D at *
      rw [← hl, h0]
      clear ha hb hl h0 hn
      go_enter Try.func15, Try.ntmps15
      go_wp2
      go_loop [5] (fun k => k = .int .i64 0) (fun _ => 0)
      case atStart => rfl
      case round =>
        obtain rfl := hrel
        go_wp2
        go_ret
        exact ⟨ret_bool hD.out.symm, 0, rfl⟩
    · obtain ⟨ga, oa, ca, rfl, _, cA⟩ := ha.form (by omega)
      obtain ⟨gb, ob, cb, rfl, _, cB⟩ := hb.form (by omega)
      have HD := Hid.mk (And.intro (fun h : ∀ j, j < ts.length → ts.getD j 0 = us.getD j 0 => (decide_eq_true (int_lists hl h) : decide (ts = us) = true)) (fun (j : Nat) (h : ts.getD j 0 ≠ us.getD j 0) => (decide_eq_false (fun e => h (by rw [e])) : decide (ts = us) = false)))
      rw [← hl] at cB ⊢
      generalize decide (ts = us) = D at *
      obtain ⟨n, hnn⟩ : ∃ n, ts.length = n := ⟨_, rfl⟩
      rw [hnn] at cA cB hn HD ⊢
      clear hl h0 hnn ha hb
      go_enter Try.func15, Try.ntmps15
      go_wp2
      go_loopw [5] (fun k wr => ∃ r : Nat, r ≤ n ∧ k = .int .i64 r ∧ (∀ j, j < r → ts.getD j 0 = us.getD j 0) ∧ ∃ m, wr = w.drewN m) (fun k _ => n - (intOf k).toNat)
      case atStart => exact ⟨0, by omega, rfl, (fun j h => by omega), 0, rfl⟩
      case round =>
        obtain ⟨r, hr, rfl, hsame, m, hwr⟩ := hrel
        have HS := Hid.mk hsame
        clear hsame
        by_cases hlt : r < n
        · have c1 : wr.cell? ⟨ga, oa + r, none⟩ = some (.int .i64 (ts.getD r 0)) := by rw [hwr]; exact cA r hlt
          have c2 : wr.cell? ⟨gb, ob + r, none⟩ = some (.int .i64 (us.getD r 0)) := by rw [hwr]; exact cB r hlt
          have HW := Hid.mk hwr
          have HT := Hid.mk (And.intro (fun h : ts.getD r 0 = us.getD r 0 => h) (HD.out.2 r))
          clear hwr cA cB
          obtain ⟨x, hx⟩ : ∃ x, ts.getD r 0 = x := ⟨_, rfl⟩
          obtain ⟨y, hy⟩ : ∃ y, us.getD r 0 = y := ⟨_, rfl⟩
          rw [hx, hy] at HT
          rw [hx] at c1
          rw [hy] at c2
          have HX := Hid.mk (And.intro hx hy)
          clear hx hy
          by_cases hxy : x = y
          · subst hxy
            go_wp2_with fail
            go_quiet (fail)
            go_wp2
            go_roundw
            case rel => exact ⟨r + 1, by omega, by go_num, (fun j hj => by
              by_cases hjr : j = r
              · subst hjr; rw [HX.out.1, HX.out.2]
              · exact HS.out j (by omega)), _, by rw [HW.out]; exact drewN_two _ _ _⟩
            case measure => simp [intOf]; omega
          · have hne : (x != y) = true := by simpa using hxy
            have HR := Hid.mk (HT.out.2 hxy)
            clear HT
            go_wp2_with fail
            go_quiet (fail)
            go_wp2
            go_ret
            exact ⟨ret_bool HR.out.symm, _, by rw [HW.out]; exact drewN_two _ _ _⟩
        · obtain rfl : r = n := by omega
          have HR := Hid.mk (HD.out.1 HS.out)
          have HW := Hid.mk hwr
          clear hwr
          go_wp2
          go_ret
          exact ⟨ret_bool HR.out.symm, _, HW.out⟩
  · obtain ⟨ao, ca, rfl⟩ := ha.shape
    obtain ⟨bo, cb, rfl⟩ := hb.shape
    have hD : Hid (decide (ts = us) = false) := Hid.mk (decide_eq_false fun e => hl (by rw [e]))
    generalize decide (ts = us) = D at *
    clear ha hb
    generalize ts.length = a at *
    generalize us.length = b at *
    have h1 : ¬ ((a : Int) = (b : Int)) := by omega
    have h2 : ((a : Int) == (b : Int)) = false := beq_eq_false_iff_ne.2 h1
    go_enter Try.func15, Try.ntmps15
    go_wp2
    go_ret
    exact ⟨ret_bool hD.out.symm, 0, rfl⟩

theorem IL.cells {w : World} {ao : Option Addr} {l : List Int} {cap : Nat} (h : IL w (.slice ao l.length cap) l) (a : Addr) (e : ao = some a) (W : World) (k : More w W) : ∀ (j : Nat) u, (zs l)[j]? = some u → W.cell? (a.add j) = some u := by
  intro j u hu
  have hj : j < l.length := by have := (List.getElem?_eq_some_iff.1 hu).1; simpa [zs_len] using this
  obtain ⟨b, o, c, e1, hb, hc⟩ := h.form (by omega)
  obtain ⟨e2, _, _⟩ := Value.slice.inj e1
  rw [e] at e2
  obtain rfl := Option.some.inj e2
  rw [zs_get l j hj] at hu
  rw [Addr.add_lit, k.cell hb, hc j hj]
  exact hu

set_option maxRecDepth 1000000 in
theorem cl_ints (v : Value) (l : List Int) (w : World) (h : IL w v l) (hK : l.length ≤ 1000000) :
    Calls Try.prog 29 #[v] w fun e w' => ∃ v', e = .returned v' ∧ NL w' w.heap.size v' l ∧ More w w' := by
  obtain ⟨i0, hi, hz0, hz1, hz2⟩ := info_parts Try.infoInt
  have he : (w.alloc (.cells #[] 3)).ownsRow w.heap.size 3 1 (.slice (some ⟨w.heap.size, 0, none⟩) 0 0) 0 [] := World.ownsRow_lit w #[] 0 (Nat.le_refl _) (by decide) rfl
  have hke : More w (w.alloc (.cells #[] 3)) := more_alloc _ _
  obtain ⟨ao, cap, rfl⟩ := h.shape
  have hcc := h.cells
  obtain ⟨K, hKe⟩ : ∃ K, l.length = K := ⟨_, rfl⟩
  have HK := Hid.mk hKe
  cases ao with
  | none =>
    have h0 : l = [] := by
      rcases h with ⟨h0, _⟩ | ⟨b, o, c, e, _⟩
      · exact List.eq_nil_of_length_eq_zero h0
      · exact absurd (Value.slice.inj e).1 (by simp)
    have hn : ∀ w : World, (binOp .eql 22 (.slice none K cap) (.slice none 0 0)).run Try.prog w = .ok (.bool true) w := fun _ => rfl
    have H0 := Hid.mk h0
    rw [hKe]
    clear h hcc he hke hKe h0 hK
    go_enter Try.func29, Try.ntmps29
    go_wp2
    go_ret
    exact ⟨_, rfl, by rw [H0.out]; exact NL.nil _ _, More.refl _⟩
  | some a =>
    have hn : ∀ w : World, (binOp .eql 22 (.slice (some a) K cap) (.slice none 0 0)).run Try.prog w = .ok (.bool false) w := fun _ => rfl
    have HE : Hid _ := And.intro he hke
    have HC : Hid _ := hcc a rfl _ hke
    have hzl := zs_len l
    have HZ := Hid.mk (zs_one l)
    rw [hKe] at hzl hK ⊢
    have HN := Hid.mk (show ∀ (v' : Value) (w' : World), w'.ownsRow w.heap.size 3 1 v' K (zs l) → NL w' w.heap.size v' l from fun v' w' hh => by rw [← HK.out] at hh; exact hh)
    generalize zs l = news at *
    clear he hke hcc h hKe
    go_enter Try.func29, Try.ntmps29
    go_wp2_with (at_builtin; refine wpList_append_own _ rfl (.tmp 5) (.tmp 6) 22 rfl w.heap.size 3 i0 (.int .i64 0) 1 8 Try.underlying22 hi hz0 hz1 hz2 rfl (by decide) _ _ _ rfl HE.out.1 a K cap news rfl (by rw [hzl, Nat.mul_one]) HC.out ?c2 ?c3 ?c4 ?c5 ?_)
    case c2 => exact HZ.out
    case c3 => unfold maxLen; omega
    case c4 => omega
    case c5 => simp
    · intro v' w1 hown hgrow _
      have hk : More w w1 := HE.out.2.grown hgrow (by simp) (fun k hk => (HE.out.1.lt k hk).1)
      have HO : Hid _ := And.intro (HN.out v' w1 hown) hk
      clear hown hgrow hk HE HN
      go_wp2
      go_ret
      exact ⟨_, rfl, HO.out.1, HO.out.2⟩
end Go.Proofs.Yteiegedffjkbeaa
