/-
  The padded sentences of a text: window's All and the document's.
-/
import Derived.Test.YtiiflegfbieblaaWinJ
import Derived.Test.YtiiflegfbieblaaTokQ
namespace Go.Proofs.Ytiiflegfbieblaa
open Go.RowKit

theorem NL.grown {w w' : World} {u v : Value} {l : List Int} {B base n : Nat} {xs : List Value} (h : NL w B u l) (hg : w.grownBy w' v.ownBlock) (hown : w.ownsRow base 30 1 v n xs) : NL w' B u l := by
  refine World.ownsRow.kept h hg ?_
  cases hu : u.ownBlock with
  | none => exact .inl rfl
  | some k =>
    refine .inr fun e => ?_
    rcases hown.2 with ⟨rfl, _⟩ | ⟨g, cap, cur, rfl, _, hh, _⟩
    · simp [Value.ownBlock] at e
    · rcases h.2 with ⟨rfl, _⟩ | ⟨g2, cap2, cur2, rfl, _, hh2, _⟩
      · simp [Value.ownBlock] at hu
      · simp [Value.ownBlock] at hu e
        subst hu
        subst e
        rw [hh] at hh2
        simp at hh2
/-- A row of lists of ints of the call's own, the lists too, in a world that has new blocks alone. -/
structure Pds (w : World) (v : Value) (G : List (List Int)) (W : World) : Prop where
  row : ∃ vs : List Value, W.ownsRow w.heap.size 30 1 v G.length vs ∧ ∀ j, j < G.length → ∃ B, NL W B (vs.getD j undef) (G.getD j [])
  more : More w W
theorem Pds.nil (w : World) : Pds w (.slice none 0 0) [] w := ⟨⟨[], World.ownsRow_nil _ _ _ _, fun j hj => by simp at hj⟩, More.refl w⟩
theorem Pds.later {w W W' : World} {v : Value} {G : List (List Int)} (h : Pds w v G W) (k : More W W') : Pds w v G W' := by
  obtain ⟨vs, h1, h2⟩ := h.row
  exact ⟨⟨vs, k.own h1, fun j hj => by obtain ⟨B, h3⟩ := h2 j hj; exact ⟨B, h3.more k⟩⟩, More.trans h.more k⟩
theorem Pds.down {w w1 W : World} {v : Value} {G : List (List Int)} (h : Pds w1 v G W) (k : More w w1) : Pds w v G W := by
  obtain ⟨vs, h1, h2⟩ := h.row
  exact ⟨⟨vs, ⟨h1.1, h1.2.imp id fun ⟨g, cap, cur, hv, hb, rest⟩ => ⟨g, cap, cur, hv, Nat.le_trans k.size hb, rest⟩⟩, h2⟩, More.trans k h.more⟩
theorem Pds.shape {w W : World} {v : Value} {G : List (List Int)} (h : Pds w v G W) : ∃ ao cap, v = .slice ao G.length cap := by
  obtain ⟨vs, h1, _⟩ := h.row
  exact wshape_of h1
theorem Pds.lr {w W : World} {v : Value} {G : List (List Int)} (h : Pds w v G W) : LR W v G := by
  obtain ⟨vs, h1, h2⟩ := h.row
  rcases h1.2 with ⟨hv, hn⟩ | ⟨g, cap, cur, hv, hb, hg, h3, h4, h5, h6⟩
  · exact .inl ⟨List.eq_nil_of_length_eq_zero hn, none, 0, hv⟩
  · subst hv
    have hvl : vs.length = G.length := by have := h1.1; omega
    refine .inr ⟨g, 0, cap, rfl, lt_of_block hg, fun j hj => ?_⟩
    obtain ⟨B, h7⟩ := h2 j hj
    refine ⟨vs.getD j undef, ?_, h7.il⟩
    rw [Nat.zero_add, h1.cellAt j (by omega), List.getD_eq_getElem?_getD, List.getElem?_eq_getElem (by omega)]
    rfl
theorem Pds.app {w W Wa W' : World} {v v' u : Value} {G : List (List Int)} {l : List Int} {B : Nat} {vs : List Value} (hrow : W.ownsRow w.heap.size 30 1 v G.length vs) (hin : ∀ j, j < G.length → ∃ B, NL W B (vs.getD j undef) (G.getD j [])) (hm0 : More w W) (ha : More W Wa) (hs : NL Wa B u l)
    (hown : W'.ownsRow w.heap.size 30 1 v' (G.length + 1) (vs ++ [u])) (hg : Wa.grownBy W' v.ownBlock) : Pds w v' (G ++ [l]) W' := by
  have hlen : vs.length = G.length := by have := hrow.1; omega
  have hra := ha.own hrow
  refine ⟨⟨vs ++ [u], by rw [List.length_append, List.length_singleton]; exact hown, fun j hj => ?_⟩, (More.trans hm0 ha).grown hg (by have := hm0.size; have := ha.size; omega) (fun k hk => (hrow.lt k hk).1)⟩
  rw [List.length_append, List.length_singleton] at hj
  rw [getD_app, getD_app, hlen]
  split
  · next h =>
    obtain ⟨B', h1⟩ := hin j h
    exact ⟨B', (h1.more ha).grown hg hra⟩
  · next h =>
    obtain rfl : j = G.length := by omega
    rw [Nat.sub_self]
    exact ⟨B, hs.grown hg hra⟩

/-- The sentences of a text are short, and their words. -/
theorem all_small (l : List UInt8) : (allS l).length ≤ l.length + 1 ∧ ∀ s ∈ allS l, s.length ≤ l.length ∧ ∀ y ∈ s, y.length ≤ 255 := by
  refine ⟨?_, fun s hs => ?_⟩
  · have h1 := snt_len (lns [] l)
    have h2 := lns_len l []
    unfold allS; omega
  · obtain ⟨_, x, hx, rfl⟩ := snt_in _ s hs
    have h1 := wds_len (pcs [] x)
    have h2 := pcs_len x []
    have h3 := lns_size l [] x hx
    refine ⟨?_, words_ok x⟩
    unfold wordsOf
    simp at h2 h3
    omega
theorem map_in {α β : Type} {f : α → β} {L : List α} {d : α} {i : Nat} (h : i < L.length) : (L.take (i + 1)).map f = (L.take i).map f ++ [f (L.getD i d)] := by
  rw [take_in (d := d) h]; simp

set_option maxRecDepth 1000000 in
set_option maxHeartbeats 1600000 in
theorem w_all (v : Nat) (D : Nat → Prop) (ts : List (List UInt8)) (l : List UInt8) (w : World) (hV : Voc w D v ts) (hN : ts.length ≤ 100000) (hl : l.length ≤ 400) :
    Calls Try.prog 14 #[.pointer (some ⟨v, 0, none⟩), .string (bs l)] w fun e w' => ∃ r, e = .returned r ∧ Pds w r ((allS l).map (pad ts)) w' := by
  obtain ⟨i0, hi, hz0, hz1, hz2⟩ := info_parts Try.infoInts
  have hta := (callsIn_wide (n := 40)).1 (tk_all 40 (by decide) l (by omega) w)
  have hsm := all_small l
  generalize allS l = ss at *
  obtain ⟨K, hK⟩ : ∃ K, ss.length = K := ⟨_, rfl⟩
  have HS := Hid.mk (And.intro hK (And.intro (fun i (hi : i < ss.length) => (show (ss.getD i []).length ≤ 400 from Nat.le_trans (hsm.2 _ (getD_in hi)).1 hl)) (And.intro (fun i (hi : i < ss.length) => (hsm.2 _ (getD_in (d := []) hi)).2) (fun i (hi : i < ss.length) => map_in (f := pad ts) (d := []) hi))))
  have hKl : K ≤ 401 := by omega
  have HV := Hid.mk hV
  have HT := Hid.mk (show ss.take K = ss by rw [← hK, List.take_length])
  clear hsm hV hK
  go_enter Try.func14, Try.ntmps14
  go_wp2_with (go_at_call 37; refine hta.mono ?_; rintro e w1 ⟨v1, rfl, hG⟩; obtain ⟨a1, c1, hv1⟩ := hG.shape; rw [HS.out.1] at hv1; subst hv1; have H1 := Hid.mk hG; clear hG hta)
  go_loopw [5, 11] (fun x i wr => ∃ r : Nat, r ≤ K ∧ i = .int .i64 r ∧ Pds w1 x ((ss.take r).map (pad ts)) wr) (fun _ i _ => K - (intOf i).toNat)
  case atStart => exact ⟨0, by omega, rfl, by rw [List.take_zero]; exact Pds.nil w1⟩
  case round =>
    obtain ⟨r, hr, rfl, hP⟩ := hrel
    by_cases hlt : r < K
    · have hlA : r < ss.length := by rw [HS.out.1]; exact hlt
      obtain ⟨g, cap, he, hc⟩ := H1.out.rd.form (by omega)
      have ha1 := (Value.slice.inj he).1
      subst ha1
      obtain ⟨u, cu, hu⟩ := hc r hlA
      have cu2 := (hP.more.cell (World.block_lt_of_cell? _ _ cu)).trans cu
      have hpd := w_pad (some ⟨v, 0, none⟩) u ts (ss.getD r []) wr (hu.more hP.more).ard (by have := HS.out.2.1 r hlA; omega) (fun y hy => Nat.le_trans (HS.out.2.2.1 r hlA y hy) (by decide)) (fun W hM s hs => vo_ID v W D ts s (HV.out.more (More.trans H1.out.more (More.trans hP.more hM))) hN hs)
      have hnx := HS.out.2.2.2 r hlA
      have hml : ((ss.take r).map (pad ts)).length = r := by rw [List.length_map, List.length_take]; omega
      obtain ⟨Q, hQ⟩ : ∃ Q, pad ts (ss.getD r []) = Q := ⟨_, rfl⟩
      obtain ⟨M, hM⟩ : ∃ M, (ss.take r).map (pad ts) = M := ⟨_, rfl⟩
      rw [hQ] at hpd hnx
      rw [hM] at hP hnx hml
      have HP := Hid.mk (And.intro hP (And.intro hnx hml))
      obtain ⟨xo, xc, hxe⟩ := hP.shape
      rw [hml] at hxe
      subst hxe
      obtain ⟨vs, hvs, hvi⟩ := hP.row
      have HR := Hid.mk (And.intro hvs hvi)
      rw [hml] at HR
      clear hP hnx hml hQ hM cu hu hc he hvs hvi
      go_wp2_with (first
        | (go_at_call 11; refine hpd.mono ?_; rintro e w2 ⟨r2, rfl, hN2, hM2⟩; have H2 := Hid.mk (And.intro hN2 hM2); obtain ⟨o2, c2, rfl⟩ := hN2.shape; clear hN2 hM2 hpd)
        | (at_builtin; refine wpList_append_own_at _ rfl (.tmp 15) (.tmp 19) 34 rfl w1.heap.size 30 i0 (.slice none 0 0) 1 24 Try.underlying34 hi hz0 hz1 hz2 rfl (by decide) _ _ _ rfl ((H2.out.2.own HR.out.1).alloc _) ⟨w2.heap.size, 0, none⟩ 1 1 [.slice o2 Q.length c2] rfl rfl (one_cell _ _ _) (one_slice _ _ _) ?c3 ?c4 ?c5 ?_))
      case c3 => unfold maxLen; omega
      case c4 => omega
      case c5 => have := HP.out.1.more.size; have := H2.out.2.size; simp; omega
      intro v' w4 hown4 hgrow _ _
      have HN := Hid.mk (Pds.app (G := M) (l := Q) (by rw [HP.out.2.2]; exact HR.out.1) (by rw [HP.out.2.2]; exact HR.out.2) HP.out.1.more (More.trans H2.out.2 (more_alloc _ _)) (H2.out.1.more (more_alloc _ _)) (by rw [HP.out.2.2]; exact hown4) hgrow)
      obtain ⟨ao4, cap4, rfl⟩ := wshape_of hown4
      clear hown4 hgrow
      go_wp2
      go_roundw
      case rel => exact ⟨r + 1, by omega, by go_num, by rw [HP.out.2.1]; exact HN.out⟩
      case measure => simp [intOf]; omega
    · obtain rfl : r = K := by omega
      rw [HT.out] at hP
      have HP := Hid.mk (hP.down H1.out.more)
      obtain ⟨xo, xc, rfl⟩ := hP.shape
      clear hP
      go_wp2
      go_ret
      exact ⟨_, rfl, HP.out⟩

set_option maxRecDepth 1000000 in
set_option maxHeartbeats 1600000 in
theorem rf_allp (a : Value) (ts : List (List UInt8)) (l : List UInt8) (w : World) (ha : ARd w a ts) (hN : ts.length ≤ 100000) (hl : l.length ≤ 400) :
    Calls Try.prog 15 #[a, .string (bs l)] w fun e w' => ∃ r, e = .returned r ∧ Pds w r ((allS l).map (pad ts)) w' := by
  obtain ⟨i0, hi, hz0, hz1, hz2⟩ := info_parts Try.infoInts
  have hta := rf_all l (by omega) w
  have hsm := all_small l
  generalize allS l = ss at *
  obtain ⟨K, hK⟩ : ∃ K, ss.length = K := ⟨_, rfl⟩
  have HS := Hid.mk (And.intro hK (And.intro (fun i (hi : i < ss.length) => (show (ss.getD i []).length ≤ 400 from Nat.le_trans (hsm.2 _ (getD_in hi)).1 hl)) (fun i (hi : i < ss.length) => map_in (f := pad ts) (d := []) hi)))
  have hKl : K ≤ 401 := by omega
  have HA := Hid.mk ha
  obtain ⟨ao, ac, rfl⟩ := ha.shape
  have HT := Hid.mk (show ss.take K = ss by rw [← hK, List.take_length])
  clear hsm ha hK
  go_enter Try.func15, Try.ntmps15
  go_wp2_with (go_at_call 38; refine hta.mono ?_; rintro e w1 ⟨v1, rfl, hG⟩; obtain ⟨a1, c1, hv1⟩ := hG.shape; rw [HS.out.1] at hv1; subst hv1; have H1 := Hid.mk hG; clear hG hta)
  go_loopw [5, 7] (fun x i wr => ∃ r : Nat, r ≤ K ∧ i = .int .i64 r ∧ Pds w1 x ((ss.take r).map (pad ts)) wr) (fun _ i _ => K - (intOf i).toNat)
  case atStart => exact ⟨0, by omega, rfl, by rw [List.take_zero]; exact Pds.nil w1⟩
  case round =>
    obtain ⟨r, hr, rfl, hP⟩ := hrel
    by_cases hlt : r < K
    · have hlA : r < ss.length := by rw [HS.out.1]; exact hlt
      obtain ⟨g, cap, he, hc⟩ := H1.out.rd.form (by omega)
      have ha1 := (Value.slice.inj he).1
      subst ha1
      obtain ⟨u, cu, hu⟩ := hc r hlA
      have cu2 := (hP.more.cell (World.block_lt_of_cell? _ _ cu)).trans cu
      have hpd := rf_pad (.slice ao ts.length ac) u ts (ss.getD r []) wr (HA.out.more (More.trans H1.out.more hP.more)) (hu.more hP.more).ard (by omega) (by have := HS.out.2.1 r hlA; omega)
      have hnx := HS.out.2.2 r hlA
      have hml : ((ss.take r).map (pad ts)).length = r := by rw [List.length_map, List.length_take]; omega
      obtain ⟨Q, hQ⟩ : ∃ Q, pad ts (ss.getD r []) = Q := ⟨_, rfl⟩
      obtain ⟨M, hM⟩ : ∃ M, (ss.take r).map (pad ts) = M := ⟨_, rfl⟩
      rw [hQ] at hpd hnx
      rw [hM] at hP hnx hml
      have HP := Hid.mk (And.intro hP (And.intro hnx hml))
      obtain ⟨xo, xc, hxe⟩ := hP.shape
      rw [hml] at hxe
      subst hxe
      obtain ⟨vs, hvs, hvi⟩ := hP.row
      have HR := Hid.mk (And.intro hvs hvi)
      rw [hml] at HR
      clear hP hnx hml hQ hM cu hu hc he hvs hvi
      go_wp2_with (first
        | (go_at_call 12; refine hpd.mono ?_; rintro e w2 ⟨r2, rfl, hN2, hM2⟩; have H2 := Hid.mk (And.intro hN2 hM2); obtain ⟨o2, c2, rfl⟩ := hN2.shape; clear hN2 hM2 hpd)
        | (at_builtin; refine wpList_append_own_at _ rfl (.tmp 16) (.tmp 23) 34 rfl w1.heap.size 30 i0 (.slice none 0 0) 1 24 Try.underlying34 hi hz0 hz1 hz2 rfl (by decide) _ _ _ rfl ((H2.out.2.own HR.out.1).alloc _) ⟨w2.heap.size, 0, none⟩ 1 1 [.slice o2 Q.length c2] rfl rfl (one_cell _ _ _) (one_slice _ _ _) ?c3 ?c4 ?c5 ?_))
      case c3 => unfold maxLen; omega
      case c4 => omega
      case c5 => have := HP.out.1.more.size; have := H2.out.2.size; simp; omega
      intro v' w4 hown4 hgrow _ _
      have HN := Hid.mk (Pds.app (G := M) (l := Q) (by rw [HP.out.2.2]; exact HR.out.1) (by rw [HP.out.2.2]; exact HR.out.2) HP.out.1.more (More.trans H2.out.2 (more_alloc _ _)) (H2.out.1.more (more_alloc _ _)) (by rw [HP.out.2.2]; exact hown4) hgrow)
      obtain ⟨ao4, cap4, rfl⟩ := wshape_of hown4
      clear hown4 hgrow
      go_wp2
      go_roundw
      case rel => exact ⟨r + 1, by omega, by go_num, by rw [HP.out.2.1]; exact HN.out⟩
      case measure => simp [intOf]; omega
    · obtain rfl : r = K := by omega
      rw [HT.out] at hP
      have HP := Hid.mk (hP.down H1.out.more)
      obtain ⟨xo, xc, rfl⟩ := hP.shape
      clear hP
      go_wp2
      go_ret
      exact ⟨_, rfl, HP.out⟩
end Go.Proofs.Ytiiflegfbieblaa
