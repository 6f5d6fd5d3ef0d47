/-
  Sentences in memory: a row of rows of texts; the document's All.
-/
import Derived.Test.YtiiflegfbieblaaTokF
namespace Go.Proofs.Ytiiflegfbieblaa
open Go.RowKit

theorem SRd.grown {w w' : World} {u v : Value} {ts : List (List UInt8)} {base n : Nat} {xs : List Value} (h : SRd w u ts) (hg : w.grownBy w' v.ownBlock) (hown : w.ownsRow base 22 1 v n xs) : SRd w' u ts := by
  obtain ⟨B, hB⟩ := h
  refine ⟨B, hB.kept hg ?_⟩
  cases hu : u.ownBlock with
  | none => exact .inl rfl
  | some k =>
    refine .inr fun e => ?_
    rcases hown.2 with ⟨rfl, _⟩ | ⟨g, cap, cur, rfl, _, hh, _⟩
    · simp [Value.ownBlock] at e
    · rcases hB.2 with ⟨rfl, _⟩ | ⟨g2, cap2, cur2, rfl, _, hh2, _⟩
      · simp [Value.ownBlock] at hu
      · simp [Value.ownBlock] at hu e
        subst hu
        subst e
        rw [hh] at hh2
        simp at hh2
/-- A row of sentences as read. -/
def RRd (W : World) (v : Value) (ss : List (List (List UInt8))) : Prop := ∃ (B : Nat) (vs : List Value), W.ownsRow B 22 1 v ss.length vs ∧ ∀ j, j < ss.length → SRd W (vs.getD j undef) (ss.getD j [])
/-- A row of sentences of the call's own, in a world that has new blocks alone. -/
structure Sents (w : World) (v : Value) (ss : List (List (List UInt8))) (W : World) : Prop where
  row : ∃ vs : List Value, W.ownsRow w.heap.size 22 1 v ss.length vs ∧ ∀ j, j < ss.length → SRd W (vs.getD j undef) (ss.getD j [])
  more : More w W
theorem Sents.nil (w : World) : Sents w (.slice none 0 0) [] w := ⟨⟨[], World.ownsRow_nil _ _ _ _, fun j hj => by simp at hj⟩, More.refl w⟩
theorem Sents.later {w W W' : World} {v : Value} {ss : List (List (List UInt8))} (h : Sents w v ss W) (k : More W W') : Sents w v ss W' := by
  obtain ⟨vs, h1, h2⟩ := h.row
  exact ⟨⟨vs, k.own h1, fun j hj => (h2 j hj).more k⟩, More.trans h.more k⟩
theorem Sents.shape {w W : World} {v : Value} {ss : List (List (List UInt8))} (h : Sents w v ss W) : ∃ ao cap, v = .slice ao ss.length cap := by
  obtain ⟨vs, h1, _⟩ := h.row
  exact wshape_of h1
theorem Sents.rd {w W : World} {v : Value} {ss : List (List (List UInt8))} (h : Sents w v ss W) : RRd W v ss := by
  obtain ⟨vs, h1, h2⟩ := h.row
  exact ⟨_, vs, h1, h2⟩
theorem Sents.app {w W Wa W' : World} {v v' u : Value} {ss : List (List (List UInt8))} {s : List (List UInt8)} {vs : List Value} (hrow : W.ownsRow w.heap.size 22 1 v ss.length vs) (hin : ∀ j, j < ss.length → SRd W (vs.getD j undef) (ss.getD j [])) (hm0 : More w W) (ha : More W Wa) (hs : SRd Wa u s)
    (hown : W'.ownsRow w.heap.size 22 1 v' (ss.length + 1) (vs ++ [u])) (hg : Wa.grownBy W' v.ownBlock) : Sents w v' (ss ++ [s]) W' := by
  have hlen : vs.length = ss.length := by have := hrow.1; omega
  have hra := ha.own hrow
  refine ⟨⟨vs ++ [u], by rw [List.length_append, List.length_singleton]; exact hown, fun j hj => ?_⟩, (More.trans hm0 ha).grown hg (by have := hm0.size; have := ha.size; omega) (fun k hk => (hrow.lt k hk).1)⟩
  rw [List.length_append, List.length_singleton] at hj
  by_cases hjs : j < ss.length
  · have h1 := ((hin j hjs).more ha).grown hg hra
    rw [List.getD_eq_getElem?_getD, List.getElem?_append_left (by omega), ← List.getD_eq_getElem?_getD, List.getD_eq_getElem?_getD (l := ss ++ [s]), List.getElem?_append_left hjs, ← List.getD_eq_getElem?_getD]
    exact h1
  · obtain rfl : j = ss.length := by omega
    have h1 := hs.grown hg hra
    rw [List.getD_eq_getElem?_getD, List.getElem?_append_right (by omega), List.getD_eq_getElem?_getD (l := ss ++ [s]), List.getElem?_append_right (Nat.le_refl _), hlen]
    simpa using h1
theorem Sents.down {w w1 W : World} {v : Value} {ss : List (List (List UInt8))} (h : Sents w1 v ss W) (k : More w w1) : Sents w v ss W := by
  obtain ⟨vs, h1, h2⟩ := h.row
  exact ⟨⟨vs, ⟨h1.1, h1.2.imp id fun ⟨g, cap, cur, hv, hb, rest⟩ => ⟨g, cap, cur, hv, Nat.le_trans k.size hb, rest⟩⟩, h2⟩, More.trans k h.more⟩
theorem RRd.more {W W' : World} {v : Value} {ss : List (List (List UInt8))} (h : RRd W v ss) (k : More W W') : RRd W' v ss := by
  obtain ⟨B, vs, h1, h2⟩ := h
  exact ⟨B, vs, k.own h1, fun j hj => (h2 j hj).more k⟩
theorem RRd.shape {W : World} {v : Value} {ss : List (List (List UInt8))} (h : RRd W v ss) : ∃ ao cap, v = .slice ao ss.length cap := by
  obtain ⟨_, vs, h1, _⟩ := h
  exact wshape_of h1
theorem RRd.form {W : World} {v : Value} {ss : List (List (List UInt8))} (h : RRd W v ss) (h0 : 0 < ss.length) : ∃ g cap, v = .slice (some ⟨g, 0, none⟩) ss.length cap ∧ ∀ k, k < ss.length → ∃ u, W.cell? ⟨g, k, none⟩ = some u ∧ SRd W u (ss.getD k []) := by
  obtain ⟨B, vs, h1, h2⟩ := h
  rcases h1.2 with ⟨hv, hn⟩ | ⟨g, cap, cur, rfl, h3, h4, h5, h6, h7, h8⟩
  · omega
  · refine ⟨g, cap, rfl, fun k hk => ⟨vs.getD k undef, ?_, h2 k hk⟩⟩
    have hlen : vs.length = ss.length := by have := h1.1; omega
    rw [h1.cellAt k (by omega), List.getD_eq_getElem?_getD, List.getElem?_eq_getElem (by omega)]
    rfl
theorem snt_step (L : List (List UInt8)) {i : Nat} (h : i < L.length) : snt (L.take (i + 1)) = if wordsOf (L.getD i []) = [] then snt (L.take i) else snt (L.take i) ++ [wordsOf (L.getD i [])] := by
  rw [List.take_succ_eq_append_getElem h, show L.getD i [] = L[i]'h by simp [List.getD, List.getElem?_eq_getElem h]]
  split
  · next h1 => exact snt_none _ h1
  · next h1 => exact snt_some _ h1

set_option maxRecDepth 1000000 in
set_option maxHeartbeats 4000000 in
theorem rf_all (l : List UInt8) (hl : l.length ≤ 1000000) (w : World) :
    Calls Try.prog 38 #[.string (bs l)] w fun e w' => ∃ v, e = .returned v ∧ Sents w v (allS l) w' := by
  have hln := fun w => rf_lines l hl w
  obtain ⟨L, hL⟩ : ∃ L, lns [] l = L := ⟨_, rfl⟩
  have hL1 := lns_len l []
  have hLs := lns_size l []
  have HA := Hid.mk (show allS l = snt L by unfold allS; rw [hL])
  rw [hL] at hln hL1 hLs
  have HLs := Hid.mk hLs
  clear hL hLs
  obtain ⟨i0, hi, hz0, hz1, hz2⟩ := info_parts Try.infoStrs
  go_enter Try.func38, Try.ntmps38
  go_wp2_with (go_at_call 61; refine (hln _).mono ?_; rintro e w1 ⟨v1, rfl, hG1⟩)
  obtain ⟨g1, cap1, rfl, hcell⟩ : ∃ g cap, v1 = .slice (some ⟨g, 0, none⟩) L.length cap ∧ ∀ k, k < L.length → w1.cell? ⟨g, k, none⟩ = some (.string (bs (L.getD k []))) := by
    rcases hG1.rd.form with ⟨h, _⟩ | ⟨g, cap, h1, _, h2⟩
    · rw [h] at hL1; simp at hL1
    · exact ⟨g, cap, h1, h2⟩
  have HM1 := Hid.mk hG1.more
  have HC := Hid.mk hcell
  have HSN := Hid.mk (fun i (h : i < L.length) => snt_step L h)
  obtain ⟨n, hn⟩ : ∃ n, L.length = n := ⟨_, rfl⟩
  rw [hn] at hL1 HC HSN ⊢
  have HT := Hid.mk (show L.take n = L by rw [← hn]; exact List.take_length)
  have HX := Hid.mk (fun i (h : i < n) => HLs.out (L.getD i []) (by rw [List.getD_eq_getElem?_getD, List.getElem?_eq_getElem (by omega)]; simp))
  clear hG1 hcell hn hln HLs
  go_wp2
  go_loopw [3, 5] (fun v k wr => ∃ i : Nat, i ≤ n ∧ k = .int .i64 i ∧ Sents w1 v (snt (L.take i)) wr) (fun _ k _ => n - (intOf k).toNat)
  case atStart => exact ⟨0, by omega, rfl, by rw [List.take_zero]; exact Sents.nil w1⟩
  case round =>
    obtain ⟨i, hi2, rfl, hS⟩ := hrel
    have hM := hS.more
    by_cases hlt : i < n
    · have c1 : wr.cell? ⟨g1, i, none⟩ = some (.string (bs (L.getD i []))) := by
        have h := HC.out i hlt
        exact (hM.cell (World.block_lt_of_cell? _ _ h)).trans h
      have hxl := HX.out i hlt
      have hsn := HSN.out i hlt
      obtain ⟨x, hx⟩ : ∃ x, L.getD i [] = x := ⟨_, rfl⟩
      rw [hx] at c1 hxl hsn
      clear hx
      have hwd := fun w => rf_words x (by simp at hxl; omega) w
      have hslen : (snt (L.take i)).length ≤ n := by
        have := snt_len (L.take i)
        simp at this
        omega
      obtain ⟨ao, cap, rfl⟩ := hS.shape
      have HM := Hid.mk hS
      by_cases hw0 : wordsOf x = []
      · rw [if_pos hw0] at hsn
        have HS := Hid.mk hsn
        rw [hw0] at hwd
        clear hsn hS hM hxl
        go_wp2_with (go_at_call 62; refine (hwd _).mono ?_; rintro e w2 ⟨v2, rfl, hG2⟩; obtain ⟨a2, c2, rfl⟩ := hG2.shape; have H2 := Hid.mk hG2.more; clear hG2)
        go_roundw
        case rel => exact ⟨i + 1, by omega, by go_num, by rw [HS.out]; exact HM.out.later H2.out⟩
        case measure => simp [intOf]; omega
      · rw [if_neg hw0] at hsn
        have HS := Hid.mk hsn
        have hpos : 0 < (wordsOf x).length := List.length_pos_iff.2 hw0
        generalize wordsOf x = ws at *
        obtain ⟨k, hk⟩ : ∃ k, ws.length = k := ⟨_, rfl⟩
        have hkpos : (0 : Int) < (k : Int) := by omega
        clear hsn hS hM hxl hw0 hpos
        go_wp2_with (first
          | (go_at_call 62; refine (hwd _).mono ?_; rintro e w2 ⟨v2, rfl, hG2⟩; obtain ⟨a2, c2, rfl⟩ := hG2.shape; rw [hk]; have H2 := Hid.mk hG2; clear hG2; obtain ⟨vs, hrow, hin⟩ := HM.out.row; have HR := Hid.mk (And.intro hrow hin); clear hrow hin)
          | (at_builtin; refine wpList_append_own_at _ rfl (.tmp 23) (.tmp 25) 66 rfl w1.heap.size 22 i0 (.slice none 0 0) 1 24 Try.underlying66 hi hz0 hz1 hz2 rfl (by decide) _ _ _ rfl ((H2.out.more.own HR.out.1).alloc _) ⟨w2.heap.size, 0, none⟩ 1 1 [.slice a2 k c2] rfl rfl (one_cell _ _ _) (one_slice _ _ _) ?c3 ?c4 ?c5 ?_))
        case c3 => unfold maxLen; omega
        case c4 => omega
        case c5 => have := HM.out.more.size; have := H2.out.more.size; simp; omega
        intro v' w4 hown4 hgrow _ _
        have HN := Hid.mk (Sents.app HR.out.1 HR.out.2 HM.out.more (More.trans H2.out.more (more_alloc _ _)) ((by have := H2.out.rd; rw [hk] at this; exact this : SRd w2 (.slice a2 k c2) ws).more (more_alloc _ _)) hown4 hgrow)
        obtain ⟨ao4, cap4, rfl⟩ := wshape_of hown4
        clear hown4 hgrow
        go_wp2
        go_roundw
        case rel => exact ⟨i + 1, by omega, by go_num, by rw [HS.out]; exact HN.out⟩
        case measure => simp [intOf]; omega
    · obtain rfl : i = n := by omega
      rw [HT.out] at hS
      have HV := Hid.mk (show Sents w _ (allS l) wr by rw [HA.out]; exact hS.down HM1.out)
      clear hS hM
      go_wp2
      go_ret
      exact ⟨_, rfl, HV.out⟩
end Go.Proofs.Ytiiflegfbieblaa
