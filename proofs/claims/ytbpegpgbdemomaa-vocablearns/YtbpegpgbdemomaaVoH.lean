/-
  The document's Learn, IDs, Line, Ints.
-/
import Derived.Test.YtbpegpgbdemomaaVoG
namespace Go.Proofs.Ytbpegpgbdemomaa
open Go.RowKit

/-- A slice of any ints as read. -/
def ZRd (w : World) (v : Value) (K : Nat) (g : Nat → Int) : Prop :=
  (K = 0 ∧ ∃ ao cap, v = .slice ao 0 cap) ∨ ∃ b o cap, v = .slice (some ⟨b, o, none⟩) K cap ∧ b < w.heap.size ∧ ∀ j, j < K → w.cell? ⟨b, o + j, none⟩ = some (.int .i64 (g j))
theorem ZRd.shape {w : World} {v : Value} {K : Nat} {g : Nat → Int} (h : ZRd w v K g) : ∃ ao cap, v = .slice ao K cap := by
  rcases h with ⟨rfl, ao, cap, rfl⟩ | ⟨b, o, cap, rfl, _⟩
  · exact ⟨_, _, rfl⟩
  · exact ⟨_, _, rfl⟩
theorem ZRd.more {w w' : World} {v : Value} {K : Nat} {g : Nat → Int} (h : ZRd w v K g) (k : More w w') : ZRd w' v K g := by
  rcases h with h | ⟨b, o, cap, rfl, hb, hc⟩
  · exact .inl h
  · exact .inr ⟨b, o, cap, rfl, Nat.lt_of_lt_of_le hb k.size, fun j hj => (k.cell hb).trans (hc j hj)⟩
/-- A row of numbers of the call's own. -/
def NRow (w : World) (B : Nat) (v : Value) (K : Nat) (f : Nat → Nat) : Prop := w.ownsRow B 3 1 v K (nums f K)
theorem NRow.more {w w' : World} {B : Nat} {v : Value} {K : Nat} {f : Nat → Nat} (h : NRow w B v K f) (k : More w w') : NRow w' B v K f := k.own h
theorem NRow.zrd {w : World} {B : Nat} {v : Value} {K : Nat} {f : Nat → Nat} (h : NRow w B v K f) : ZRd w v K fun j => (f j : Int) := by
  rcases h.2 with ⟨hv, hn⟩ | ⟨g, cap, cur, hv, h1, h2, h3, h4, h5, h6⟩
  · exact .inl ⟨hn, none, 0, hv⟩
  · subst hv
    refine .inr ⟨g, 0, cap, rfl, lt_of_block h2, fun j hj => ?_⟩
    rw [Nat.zero_add, h.cellAt j (by omega), nums_get f hj]
theorem nums_succ (f : Nat → Nat) (K : Nat) : nums f (K + 1) = nums f K ++ [.int .i64 (f K)] := by simp [nums, List.range_succ]
theorem one_num (x : Int) : ∀ u ∈ [Value.int .i64 x], u.oneCell' = true := by intro u hu; simp at hu; subst hu; rfl

/-- A word's number, or 0, as a number. -/
def idN (ts : List (List UInt8)) (s : List UInt8) : Nat := (idI ts s).toNat
theorem idN_of (ts : List (List UInt8)) (s : List UInt8) : idI ts s = (idN ts s : Int) := by
  have := (@idI_le ts s).1
  unfold idN; omega

set_option maxRecDepth 1000000 in
set_option maxHeartbeats 3200000 in
theorem rf_ints (a b : Value) (K : Nat) (f g : Nat → Int) (w : World) (ha : ZRd w a K f) (hb : ZRd w b K g) (he : ∀ j, j < K → f j = g j) (hK : K ≤ 1000000) :
    Calls Try.prog 26 #[a, b] w fun e w' => e = .returned (.bool true) ∧ ∃ m, w' = w.drewN m := by
  by_cases h0 : K = 0
  · obtain ⟨ao, ca, rfl⟩ := ha.shape
    obtain ⟨bo, cb, rfl⟩ := hb.shape
    subst h0
    clear ha hb he
    go_enter Try.func26, Try.ntmps26
    go_wp2
    go_loop [5] (fun k => k = .int .i64 0) (fun _ => 0)
    case atStart => rfl
    case round =>
      obtain rfl := hrel
      go_wp2
      go_ret
      exact ⟨rfl, 0, rfl⟩
  · rcases ha with ⟨h, _⟩ | ⟨ga, oa, ca, rfl, _, cA⟩
    · exact absurd h h0
    rcases hb with ⟨h, _⟩ | ⟨gb, ob, cb, rfl, _, cB⟩
    · exact absurd h h0
    go_enter Try.func26, Try.ntmps26
    go_wp2
    go_loopw [5] (fun k wr => ∃ r : Nat, r ≤ K ∧ k = .int .i64 r ∧ ∃ m, wr = w.drewN m) (fun k _ => K - (intOf k).toNat)
    case atStart => exact ⟨0, by omega, rfl, 0, rfl⟩
    case round =>
      obtain ⟨r, hr, rfl, m, hwr⟩ := hrel
      by_cases hlt : r < K
      · have c1 : wr.cell? ⟨ga, oa + r, none⟩ = some (.int .i64 (f r)) := by rw [hwr]; exact cA r hlt
        have c2 : wr.cell? ⟨gb, ob + r, none⟩ = some (.int .i64 (f r)) := by rw [hwr, he r hlt]; exact cB r hlt
        have HW := Hid.mk hwr
        generalize f r = x at *
        clear hwr cA cB he
        go_wp2_with fail
        go_quiet (fail)
        go_wp2
        go_roundw
        case rel => exact ⟨r + 1, by omega, by go_num, _, by rw [HW.out]; exact drewN_two _ _ _⟩
        case measure => simp [intOf]; omega
      · obtain rfl : r = K := by omega
        have HW := Hid.mk hwr
        clear hwr cA cB he
        go_wp2
        go_ret
        exact ⟨rfl, _, HW.out⟩

set_option maxRecDepth 1000000 in
set_option maxHeartbeats 4000000 in
theorem rf_ids (v u : Value) (ts ws : List (List UInt8)) (w : World) (ha : ARd w v ts) (hb : ARd w u ws) (hn : ts.length ≤ 1000000) (hm : ws.length ≤ 1000000) :
    Calls Try.prog 28 #[v, u] w fun e w' => ∃ r, e = .returned r ∧ NRow w' w.heap.size r ws.length (fun j => idN ts (ws.getD j [])) ∧ More w w' := by
  obtain ⟨i0, hi, hz0, hz1, hz2⟩ := info_parts Try.infoInt
  have HA := Hid.mk (And.intro ha hb)
  obtain ⟨bo, cb, rfl⟩ := hb.shape
  obtain ⟨n, hnn⟩ : ∃ n, ws.length = n := ⟨_, rfl⟩
  rw [hnn] at HA hm ⊢
  obtain ⟨f, hf⟩ : ∃ f : Nat → Nat, (fun j => idN ts (ws.getD j [])) = f := ⟨_, rfl⟩
  have HF := Hid.mk (fun j => (show f j = idN ts (ws.getD j []) by rw [← hf]))
  rw [hf]
  clear ha hb hf
  go_enter Try.func28, Try.ntmps28
  go_wp2
  go_loopw [5, 6] (fun x k wr => ∃ r : Nat, r ≤ n ∧ k = .int .i64 r ∧ NRow wr w.heap.size x r f ∧ More w wr) (fun _ k _ => n - (intOf k).toNat)
  case atStart => exact ⟨0, by omega, rfl, World.ownsRow_nil _ _ _ _, More.refl w⟩
  case round =>
    obtain ⟨r, hr, rfl, hR, hM⟩ := hrel
    obtain ⟨ao, cap, rfl⟩ := wshape_of hR
    by_cases hlt : r < n
    · obtain ⟨g, o, rfl, cB⟩ : ∃ g o, bo = some ⟨g, o, none⟩ ∧ wr.cell? ⟨g, o + r, none⟩ = some (.string (bs (ws.getD r []))) := by
        rcases HA.out.2 with ⟨h, _⟩ | ⟨g, o, cap, h1, h2⟩
        · rw [h] at hnn; simp at hnn; omega
        · have h3 := h2 r (by omega)
          exact ⟨g, o, (Value.slice.inj h1).1, (hM.cell (World.block_lt_of_cell? _ _ h3)).trans h3⟩
      have hid := rf_id v ts (ws.getD r []) wr (HA.out.1.more hM) hn
      rw [idN_of] at hid
      rw [← HF.out r] at hid
      have HX := Hid.mk (nums_succ f r)
      generalize ws.getD r [] = x at cB hid
      obtain ⟨X, hX⟩ : ∃ X, f r = X := ⟨_, rfl⟩
      rw [hX] at hid HX
      have HM := Hid.mk (And.intro hR hM)
      clear hX hR hM
      go_wp2_with (first
        | (go_at_call 16; refine hid.mono ?_; rintro e w' ⟨rfl, hw'⟩; subst w')
        | (at_builtin; refine wpList_append_own_at _ rfl (.tmp 13) (.tmp 20) 45 rfl w.heap.size 3 i0 (.int .i64 0) 1 8 Try.underlying45 hi hz0 hz1 hz2 rfl (by decide) _ _ _ rfl (HM.out.1.alloc _) ⟨wr.heap.size, 0, none⟩ 1 1 [.int .i64 X] rfl rfl (one_cell _ _ _) (one_num _) ?c3 ?c4 ?c5 ?_))
      case c3 => unfold maxLen; omega
      case c4 => omega
      case c5 => have := HM.out.2.size; simp; omega
      intro v' w4 hown4 hgrow _ _
      rw [← HX.out] at hown4
      have HN := Hid.mk (And.intro hown4 ((More.trans HM.out.2 (more_alloc wr _)).grown hgrow (by have := HM.out.2.size; simp; omega) (fun k hk => (HM.out.1.lt k hk).1)))
      obtain ⟨ao4, cap4, rfl⟩ := wshape_of hown4
      clear hown4 hgrow
      go_wp2
      go_roundw
      case rel => exact ⟨r + 1, by omega, by go_num, HN.out.1, HN.out.2⟩
      case measure => simp [intOf]; omega
    · obtain rfl : r = n := by omega
      have HN := Hid.mk (And.intro hR hM)
      clear hR hM
      go_wp2
      go_ret
      exact ⟨_, rfl, HN.out.1, HN.out.2⟩

theorem flat_bound {ss : List (List (List UInt8))} {i k : Nat} (hi : i < ss.length) : ((ss.take i).flatten ++ (ss.getD i []).take k).length ≤ ss.flatten.length := by
  have h1 : ss.flatten = (ss.take i).flatten ++ (ss.drop i).flatten := by rw [← List.flatten_append, List.take_append_drop]
  have h2 : ss.drop i = ss.getD i [] :: ss.drop (i + 1) := by
    rw [List.drop_eq_getElem_cons hi, show ss.getD i [] = ss[i]'hi by simp [List.getD, List.getElem?_eq_getElem hi]]
  have h3 := List.length_take_le' k (ss.getD i [])
  rw [h1, h2, List.flatten_cons]
  simp only [List.length_append]
  omega
theorem flat_next {ss : List (List (List UInt8))} {i : Nat} (hi : i < ss.length) : (ss.take (i + 1)).flatten = (ss.take i).flatten ++ ss.getD i [] := by
  rw [List.take_succ_eq_append_getElem hi, List.flatten_append, show ss.getD i [] = ss[i]'hi by simp [List.getD, List.getElem?_eq_getElem hi]]
  simp
theorem SRd.down {w : World} {v : Value} {ts : List (List UInt8)} (h : SRd w v ts) (h0 : 0 < ts.length) : ∃ g cap, v = .slice (some ⟨g, 0, none⟩) ts.length cap ∧ ∀ k, k < ts.length → w.cell? ⟨g, k, none⟩ = some (.string (bs (ts.getD k []))) := by
  rcases h.form with ⟨h1, _⟩ | ⟨g, cap, h1, _, h2⟩
  · rw [h1] at h0; simp at h0
  · exact ⟨g, cap, h1, h2⟩

set_option maxRecDepth 1000000 in
set_option maxHeartbeats 4000000 in
theorem rf_learn (l : List UInt8) (hl : l.length ≤ 60000) (w : World) :
    Calls Try.prog 20 #[.string (bs l)] w fun e w' => ∃ v, e = .returned v ∧ SRd w' v (lrn l) ∧ More w w' := by
  have hall := fun w => rf_all l (by omega) w
  have hmk := fun w => rf_marks w
  have hfl := all_flat l
  have hle : (allS l).flatten.length ≤ 60000 := by
    have h1 := snt_flat (lns [] l)
    have h2 := lw_len (lns [] l)
    have h3 := lns_sum l []
    have h4 : (allS l).flatten = lw (lns [] l) := h1
    rw [h4]
    simp at h3
    omega
  obtain ⟨ss, hss⟩ : ∃ ss, allS l = ss := ⟨_, rfl⟩
  rw [hss] at hall hfl hle
  have hbd : ∀ i k, i < ss.length → (putAll mk3 ((ss.take i).flatten ++ (ss.getD i []).take k)).length ≤ 1000000 := fun i k hi => by
    have h1 := putAll_len ((ss.take i).flatten ++ (ss.getD i []).take k) mk3
    have h2 := flat_bound (k := k) hi
    simp only [mk3, List.length_cons, List.length_nil] at h1
    simp only [mk3]
    omega
  have hnx := fun i (hi : i < ss.length) => flat_next hi
  obtain ⟨n, hn⟩ : ∃ n, ss.length = n := ⟨_, rfl⟩
  have hfn : (ss.take n).flatten = ss.flatten := by rw [← hn, List.take_length]
  rw [hn] at hbd hnx
  have hnb : n ≤ 60001 := by
    have h1 := snt_len (lns [] l)
    have h2 := (lns_len l []).2
    rw [← hn, ← hss]; unfold allS; omega
  have HF := Hid.mk (And.intro hfl (And.intro hfn (And.intro hbd hnx)))
  have hsl : ∀ i, i < n → (ss.getD i []).length ≤ 1000000 := fun i hi => by
    have h2 := flat_bound (ss := ss) (i := i) (k := (ss.getD i []).length) (by omega)
    rw [List.take_length, List.length_append] at h2
    omega
  have HSL := Hid.mk hsl
  clear hfl hfn hle hss hbd hnx hsl
  go_enter Try.func20, Try.ntmps20
  go_wp2_with (first
    | (go_at_call 22; refine (hmk _).mono ?_; rintro e w1 ⟨v1, rfl, hG⟩; have H1 := Hid.mk hG; clear hG)
    | (go_at_call 44; refine (hall _).mono ?_; rintro e w2 ⟨v2, rfl, hS⟩; have H2 := Hid.mk hS; obtain ⟨a2, c2, rfl⟩ := hS.shape; rw [hn]; rw [hn] at H2; clear hS))
  have HM := Hid.mk (And.intro (More.trans H1.out.more H2.out.more) (And.intro (H1.out.rd.more H2.out.more) H2.out.rd))
  clear H1 H2 hall hmk
  go_loopw [3, 5] (fun x k wr => ∃ i : Nat, i ≤ n ∧ k = .int .i64 i ∧ SRd wr x (putAll mk3 (ss.take i).flatten) ∧ More w2 wr) (fun _ k _ => n - (intOf k).toNat)
  case atStart => exact ⟨0, by omega, rfl, HM.out.2.1, More.refl _⟩
  case round =>
    obtain ⟨i, hi, rfl, hX, hM⟩ := hrel
    by_cases hlt : i < n
    · obtain ⟨g2, cp2, e2, hc⟩ := HM.out.2.2.form (by omega)
      rw [hn] at e2
      obtain ⟨rfl, _, rfl⟩ := Value.slice.inj e2
      obtain ⟨u, cu, ru⟩ := hc i (by omega)
      have cu2 : ∀ W, More w2 W → W.cell? ⟨g2, i, none⟩ = some u := fun W h => (h.cell (World.block_lt_of_cell? _ _ cu)).trans cu
      obtain ⟨ao, cp, rfl⟩ := ru.shape
      obtain ⟨m, hm⟩ : ∃ m, (ss.getD i []).length = m := ⟨_, rfl⟩
      rw [hm] at cu cu2 ru
      have hbd := HF.out.2.2.1 i
      have hnx := HF.out.2.2.2 i hlt
      have hml : m ≤ 1000000 := by rw [← hm]; exact HSL.out i hlt
      have HI := Hid.mk (And.intro (show putAll mk3 ((ss.take i).flatten ++ (ss.getD i []).take 0) = putAll mk3 (ss.take i).flatten by rw [List.take_zero, List.append_nil]) (And.intro (show putAll mk3 ((ss.take i).flatten ++ (ss.getD i []).take m) = putAll mk3 (ss.take (i + 1)).flatten by rw [← hm, List.take_length, hnx]) (And.intro (fun k => hbd k hlt) (fun k (hk : k < m) => (show putAll mk3 ((ss.take i).flatten ++ (ss.getD i []).take (k + 1)) = putN (putAll mk3 ((ss.take i).flatten ++ (ss.getD i []).take k)) ((ss.getD i []).getD k []) by rw [take_next (by omega), ← List.append_assoc, putAll_snoc])))))
      have HU := Hid.mk (And.intro ru (And.intro cu2 hm))
      have HX := Hid.mk (And.intro hX hM)
      clear e2 hc cu cu2 ru hbd hnx hX hM hm
      go_wp2
      go_loopw [3, 6] (fun x k wr => ∃ r : Nat, r ≤ m ∧ k = .int .i64 r ∧ SRd wr x (putAll mk3 ((ss.take i).flatten ++ (ss.getD i []).take r)) ∧ More w2 wr) (fun _ k _ => m - (intOf k).toNat)
      case atStart => exact ⟨0, by omega, rfl, by rw [HI.out.1]; exact HX.out.1, HX.out.2⟩
      case round =>
        obtain ⟨r, hr, rfl, hY, hM⟩ := hrel
        have cx := HU.out.2.1 _ hM
        by_cases hlt2 : r < m
        · obtain ⟨g, rfl, cw⟩ : ∃ g, ao = some ⟨g, 0, none⟩ ∧ w2.cell? ⟨g, r, none⟩ = some (.string (bs ((ss.getD i []).getD r []))) := by
            obtain ⟨g, cap, h1, h2⟩ := HU.out.1.down (by rw [HU.out.2.2]; omega)
            exact ⟨g, (Value.slice.inj h1).1, h2 r (by rw [HU.out.2.2]; exact hlt2)⟩
          have cw2 := (hM.cell (World.block_lt_of_cell? _ _ cw)).trans cw
          obtain ⟨y, hy⟩ : ∃ y, (ss.getD i []).getD r [] = y := ⟨_, rfl⟩
          have hN := HI.out.2.2.2 r hlt2
          rw [hy] at cw2 hN
          have hpu := rf_put _ _ y wr hY (HI.out.2.2.1 r)
          rw [← hN] at hpu
          have HM2 := Hid.mk hM
          clear hN hY hM hy cw
          go_wp2_with (go_at_call 24; refine hpu.mono ?_; rintro e w4 ⟨v4, rfl, hS4, hM4, _⟩; have H4 := Hid.mk (And.intro hS4 hM4); clear hS4 hM4 hpu)
          go_roundw
          case rel => exact ⟨r + 1, by omega, by go_num, H4.out.1, More.trans HM2.out H4.out.2⟩
          case measure => simp [intOf]; omega
        · obtain rfl : r = m := by omega
          rw [HI.out.2.1] at hY
          have HM2 := Hid.mk (And.intro hY hM)
          clear hY hM
          go_wp2
          go_roundw
          case rel => exact ⟨i + 1, by omega, by go_num, HM2.out.1, HM2.out.2⟩
          case measure => simp [intOf]; omega
    · obtain rfl : i = n := by omega
      rw [HF.out.2.1, HF.out.1] at hX
      have HM2 := Hid.mk (And.intro hX hM)
      clear hX hM
      go_wp2
      go_ret
      exact ⟨_, rfl, HM2.out.1, More.trans HM.out.1 HM2.out.2⟩
end Go.Proofs.Ytbpegpgbdemomaa
