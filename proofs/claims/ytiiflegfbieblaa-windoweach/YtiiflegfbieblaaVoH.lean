/-
  The document's Learn, IDs, Line, Ints.
-/
import Derived.Test.YtiiflegfbieblaaVoE
namespace Go.Proofs.Ytiiflegfbieblaa
open Go.RowKit

/-- A slice of any ints as read. -/
def ZRd (w : World) (v : Value) (K : Nat) (g : Nat → Int) : Prop :=
  (K = 0 ∧ ∃ ao cap, v = .slice ao 0 cap) ∨ ∃ b o cap, v = .slice (some ⟨b, o, none⟩) K cap ∧ b < w.heap.size ∧ ∀ j, j < K → w.cell? ⟨b, o + j, none⟩ = some (.int .i64 (g j))
theorem ZRd.shape {w : World} {v : Value} {K : Nat} {g : Nat → Int} (h : ZRd w v K g) : ∃ ao cap, v = .slice ao K cap := by
  rcases h with ⟨rfl, ao, cap, rfl⟩ | ⟨b, o, cap, rfl, _⟩
  · exact ⟨_, _, rfl⟩
  · exact ⟨_, _, rfl⟩
theorem ZRd.more {w w' : World} {v : Value} {K : Nat} {g : Nat → Int} (h : ZRd w v K g) (k : More w w') : ZRd w' v K g := by
  rcases h with h | ⟨b, o, cap, rfl, hb, hc⟩
  · exact .inl h
  · exact .inr ⟨b, o, cap, rfl, Nat.lt_of_lt_of_le hb k.size, fun j hj => (k.cell hb).trans (hc j hj)⟩
/-- A row of numbers of the call's own. -/
def NRow (w : World) (B : Nat) (v : Value) (K : Nat) (f : Nat → Nat) : Prop := w.ownsRow B 3 1 v K (nums f K)
theorem NRow.more {w w' : World} {B : Nat} {v : Value} {K : Nat} {f : Nat → Nat} (h : NRow w B v K f) (k : More w w') : NRow w' B v K f := k.own h
theorem NRow.zrd {w : World} {B : Nat} {v : Value} {K : Nat} {f : Nat → Nat} (h : NRow w B v K f) : ZRd w v K fun j => (f j : Int) := by
  rcases h.2 with ⟨hv, hn⟩ | ⟨g, cap, cur, hv, h1, h2, h3, h4, h5, h6⟩
  · exact .inl ⟨hn, none, 0, hv⟩
  · subst hv
    refine .inr ⟨g, 0, cap, rfl, lt_of_block h2, fun j hj => ?_⟩
    rw [Nat.zero_add, h.cellAt j (by omega), nums_get f hj]
theorem nums_succ (f : Nat → Nat) (K : Nat) : nums f (K + 1) = nums f K ++ [.int .i64 (f K)] := by simp [nums, List.range_succ]
theorem one_num (x : Int) : ∀ u ∈ [Value.int .i64 x], u.oneCell' = true := by intro u hu; simp at hu; subst hu; rfl

/-- A word's number, or 0, as a number. -/
def idN (ts : List (List UInt8)) (s : List UInt8) : Nat := (idI ts s).toNat
theorem idN_of (ts : List (List UInt8)) (s : List UInt8) : idI ts s = (idN ts s : Int) := by
  have := (@idI_le ts s).1
  unfold idN; omega

set_option maxRecDepth 1000000 in
set_option maxHeartbeats 3200000 in
theorem rf_ints (a b : Value) (K : Nat) (f g : Nat → Int) (w : World) (ha : ZRd w a K f) (hb : ZRd w b K g) (he : ∀ j, j < K → f j = g j) (hK : K ≤ 1000000) :
    Calls Try.prog 10 #[a, b] w fun e w' => e = .returned (.bool true) ∧ ∃ m, w' = w.drewN m := by
  by_cases h0 : K = 0
  · obtain ⟨ao, ca, rfl⟩ := ha.shape
    obtain ⟨bo, cb, rfl⟩ := hb.shape
    subst h0
    clear ha hb he
    go_enter Try.func10, Try.ntmps10
    go_wp2
    go_loop [5] (fun k => k = .int .i64 0) (fun _ => 0)
    case atStart => rfl
    case round =>
      obtain rfl := hrel
      go_wp2
      go_ret
      exact ⟨rfl, 0, rfl⟩
  · rcases ha with ⟨h, _⟩ | ⟨ga, oa, ca, rfl, _, cA⟩
    · exact absurd h h0
    rcases hb with ⟨h, _⟩ | ⟨gb, ob, cb, rfl, _, cB⟩
    · exact absurd h h0
    go_enter Try.func10, Try.ntmps10
    go_wp2
    go_loopw [5] (fun k wr => ∃ r : Nat, r ≤ K ∧ k = .int .i64 r ∧ ∃ m, wr = w.drewN m) (fun k _ => K - (intOf k).toNat)
    case atStart => exact ⟨0, by omega, rfl, 0, rfl⟩
    case round =>
      obtain ⟨r, hr, rfl, m, hwr⟩ := hrel
      by_cases hlt : r < K
      · have c1 : wr.cell? ⟨ga, oa + r, none⟩ = some (.int .i64 (f r)) := by rw [hwr]; exact cA r hlt
        have c2 : wr.cell? ⟨gb, ob + r, none⟩ = some (.int .i64 (f r)) := by rw [hwr, he r hlt]; exact cB r hlt
        have HW := Hid.mk hwr
        generalize f r = x at *
        clear hwr cA cB he
        go_wp2_with fail
        go_quiet (fail)
        go_wp2
        go_roundw
        case rel => exact ⟨r + 1, by omega, by go_num, _, by rw [HW.out]; exact drewN_two _ _ _⟩
        case measure => simp [intOf]; omega
      · obtain rfl : r = K := by omega
        have HW := Hid.mk hwr
        clear hwr cA cB he
        go_wp2
        go_ret
        exact ⟨rfl, _, HW.out⟩

set_option maxRecDepth 1000000 in
set_option maxHeartbeats 4000000 in
theorem rf_ids (v u : Value) (ts ws : List (List UInt8)) (w : World) (ha : ARd w v ts) (hb : ARd w u ws) (hn : ts.length ≤ 1000000) (hm : ws.length ≤ 1000000) :
    Calls Try.prog 36 #[v, u] w fun e w' => ∃ r, e = .returned r ∧ NRow w' w.heap.size r ws.length (fun j => idN ts (ws.getD j [])) ∧ More w w' := by
  obtain ⟨i0, hi, hz0, hz1, hz2⟩ := info_parts Try.infoInt
  have HA := Hid.mk (And.intro ha hb)
  obtain ⟨bo, cb, rfl⟩ := hb.shape
  obtain ⟨n, hnn⟩ : ∃ n, ws.length = n := ⟨_, rfl⟩
  rw [hnn] at HA hm ⊢
  obtain ⟨f, hf⟩ : ∃ f : Nat → Nat, (fun j => idN ts (ws.getD j [])) = f := ⟨_, rfl⟩
  have HF := Hid.mk (fun j => (show f j = idN ts (ws.getD j []) by rw [← hf]))
  rw [hf]
  clear ha hb hf
  go_enter Try.func36, Try.ntmps36
  go_wp2
  go_loopw [5, 6] (fun x k wr => ∃ r : Nat, r ≤ n ∧ k = .int .i64 r ∧ NRow wr w.heap.size x r f ∧ More w wr) (fun _ k _ => n - (intOf k).toNat)
  case atStart => exact ⟨0, by omega, rfl, World.ownsRow_nil _ _ _ _, More.refl w⟩
  case round =>
    obtain ⟨r, hr, rfl, hR, hM⟩ := hrel
    obtain ⟨ao, cap, rfl⟩ := wshape_of hR
    by_cases hlt : r < n
    · obtain ⟨g, o, rfl, cB⟩ : ∃ g o, bo = some ⟨g, o, none⟩ ∧ wr.cell? ⟨g, o + r, none⟩ = some (.string (bs (ws.getD r []))) := by
        rcases HA.out.2 with ⟨h, _⟩ | ⟨g, o, cap, h1, h2⟩
        · rw [h] at hnn; simp at hnn; omega
        · have h3 := h2 r (by omega)
          exact ⟨g, o, (Value.slice.inj h1).1, (hM.cell (World.block_lt_of_cell? _ _ h3)).trans h3⟩
      have hid := rf_id v ts (ws.getD r []) wr (HA.out.1.more hM) hn
      rw [idN_of] at hid
      rw [← HF.out r] at hid
      have HX := Hid.mk (nums_succ f r)
      generalize ws.getD r [] = x at cB hid
      obtain ⟨X, hX⟩ : ∃ X, f r = X := ⟨_, rfl⟩
      rw [hX] at hid HX
      have HM := Hid.mk (And.intro hR hM)
      clear hX hR hM
      go_wp2_with (first
        | (go_at_call 58; refine hid.mono ?_; rintro e w' ⟨rfl, hw'⟩; subst w')
        | (at_builtin; refine wpList_append_own_at _ rfl (.tmp 13) (.tmp 20) 30 rfl w.heap.size 3 i0 (.int .i64 0) 1 8 Try.underlying30 hi hz0 hz1 hz2 rfl (by decide) _ _ _ rfl (HM.out.1.alloc _) ⟨wr.heap.size, 0, none⟩ 1 1 [.int .i64 X] rfl rfl (one_cell _ _ _) (one_num _) ?c3 ?c4 ?c5 ?_))
      case c3 => unfold maxLen; omega
      case c4 => omega
      case c5 => have := HM.out.2.size; simp; omega
      intro v' w4 hown4 hgrow _ _
      rw [← HX.out] at hown4
      have HN := Hid.mk (And.intro hown4 ((More.trans HM.out.2 (more_alloc wr _)).grown hgrow (by have := HM.out.2.size; simp; omega) (fun k hk => (HM.out.1.lt k hk).1)))
      obtain ⟨ao4, cap4, rfl⟩ := wshape_of hown4
      clear hown4 hgrow
      go_wp2
      go_roundw
      case rel => exact ⟨r + 1, by omega, by go_num, HN.out.1, HN.out.2⟩
      case measure => simp [intOf]; omega
    · obtain rfl : r = n := by omega
      have HN := Hid.mk (And.intro hR hM)
      clear hR hM
      go_wp2
      go_ret
      exact ⟨_, rfl, HN.out.1, HN.out.2⟩

theorem flat_bound {ss : List (List (List UInt8))} {i k : Nat} (hi : i < ss.length) : ((ss.take i).flatten ++ (ss.getD i []).take k).length ≤ ss.flatten.length := by
  have h1 : ss.flatten = (ss.take i).flatten ++ (ss.drop i).flatten := by rw [← List.flatten_append, List.take_append_drop]
  have h2 : ss.drop i = ss.getD i [] :: ss.drop (i + 1) := by
    rw [List.drop_eq_getElem_cons hi, show ss.getD i [] = ss[i]'hi by simp [List.getD, List.getElem?_eq_getElem hi]]
  have h3 := List.length_take_le' k (ss.getD i [])
  rw [h1, h2, List.flatten_cons]
  simp only [List.length_append]
  omega
theorem flat_next {ss : List (List (List UInt8))} {i : Nat} (hi : i < ss.length) : (ss.take (i + 1)).flatten = (ss.take i).flatten ++ ss.getD i [] := by
  rw [List.take_succ_eq_append_getElem hi, List.flatten_append, show ss.getD i [] = ss[i]'hi by simp [List.getD, List.getElem?_eq_getElem hi]]
  simp
theorem SRd.down {w : World} {v : Value} {ts : List (List UInt8)} (h : SRd w v ts) (h0 : 0 < ts.length) : ∃ g cap, v = .slice (some ⟨g, 0, none⟩) ts.length cap ∧ ∀ k, k < ts.length → w.cell? ⟨g, k, none⟩ = some (.string (bs (ts.getD k []))) := by
  rcases h.form with ⟨h1, _⟩ | ⟨g, cap, h1, _, h2⟩
  · rw [h1] at h0; simp at h0
  · exact ⟨g, cap, h1, h2⟩

end Go.Proofs.Ytiiflegfbieblaa
