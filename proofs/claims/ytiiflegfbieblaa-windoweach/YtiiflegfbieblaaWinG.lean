/-
  The document's Ahead and Grams; appends of rows.
-/
import Derived.Test.YtiiflegfbieblaaWinF
namespace Go.Proofs.Ytiiflegfbieblaa
open Go.RowKit Go.Shelf
attribute [local go_sem] Oper.semAt_some

theorem Try.infoInts : (Try.prog.info? 30).map (fun i => (i.zero, i.size, i.bytes)) = some (some (.slice none 0 0), 1, 24) := by kernel_rfl

set_option maxRecDepth 1000000 in
set_option maxHeartbeats 1600000 in
theorem rf_ahead (v : Value) (p : List Int) (i n : Int) (w : World) (h : IL w v p) (hl : p.length ≤ 1000000) (hn : n ≤ 9223372036854775807) :
    Calls Try.prog 23 #[v, .int .i64 i, .int .i64 n] w fun e w' => ∃ r, e = .returned r ∧ NL w' w.heap.size r (ahd p i n) ∧ More w w' := by
  obtain ⟨i0, hi, hz0, hz1, hz2⟩ := info_parts Try.infoInt
  by_cases h1 : n < 1
  · have HN := Hid.mk (ahd_none (p := p) (i := i) (.inl h1))
    obtain ⟨ao, cap, rfl⟩ := h.shape
    clear h
    go_enter Try.func23, Try.ntmps23
    go_wp2
    go_ret
    exact ⟨_, rfl, by rw [HN.out]; exact NL.nil _ _, More.refl _⟩
  have h1' : decide (n < 1) = false := decide_eq_false h1
  by_cases h2 : i < 0
  · have HN := Hid.mk (ahd_none (p := p) (n := n) (.inr (.inl h2)))
    obtain ⟨ao, cap, rfl⟩ := h.shape
    clear h
    go_enter Try.func23, Try.ntmps23
    go_wp2
    go_ret
    exact ⟨_, rfl, by rw [HN.out]; exact NL.nil _ _, More.refl _⟩
  have h2' : decide (i < 0) = false := decide_eq_false h2
  by_cases h3 : (p.length : Int) < i
  · have HN := Hid.mk (ahd_none (n := n) (.inr (.inr h3)))
    obtain ⟨ao, cap, rfl⟩ := h.shape
    generalize p.length = k at *
    clear h
    go_enter Try.func23, Try.ntmps23
    go_wp2
    go_ret
    exact ⟨_, rfl, by rw [HN.out]; exact NL.nil _ _, More.refl _⟩
  obtain ⟨I, rfl⟩ : ∃ I : Nat, i = I := ⟨i.toNat, by omega⟩
  have hs := ahd_some (p := p) (i := (I : Int)) (n := n) (by omega) (by omega) (by omega)
  rw [Int.toNat_natCast] at hs
  obtain ⟨M, hM⟩ : ∃ M, ((I : Int) - n).toNat = M := ⟨_, rfl⟩
  rw [hM] at hs
  have HM := Hid.mk (show ∀ r : Nat, r < I → ((I : Int) - (r : Int) ≤ n ↔ M ≤ r) from fun r hr => by omega)
  have hIp : I ≤ p.length := by omega
  have h3' : ¬ (p.length : Int) < (I : Int) := by omega
  have HS := Hid.mk (show ahd p (I : Int) n = ahT p M I from hs)
  have HA := Hid.mk h
  obtain ⟨ao, cap, rfl⟩ := h.shape
  have HT := Hid.mk (And.intro (fun r (hr : r < p.length) => ahT_in (p := p) (m := M) hr) (And.intro (fun r => ahT_out (p := p) (m := M) (k := r)) (fun r (hr : r ≤ p.length) => ahT_len (p := p) (m := M) hr)))
  obtain ⟨k, hk⟩ : ∃ k, p.length = k := ⟨_, rfl⟩
  have HK := Hid.mk hk
  rw [hk] at h3' hIp HT hl ⊢
  clear h hs hM hk
  go_enter Try.func23, Try.ntmps23
  go_wp2
  go_loopw [7, 8] (fun x i wr => ∃ r : Nat, r ≤ I ∧ i = .int .i64 r ∧ NL wr w.heap.size x (ahT p M r) ∧ More w wr) (fun _ i _ => I - (intOf i).toNat)
  case atStart => exact ⟨0, by omega, rfl, by rw [ahT_zero]; exact NL.nil _ _, More.refl w⟩
  case round =>
    obtain ⟨r, hr, rfl, hN, hR⟩ := hrel
    by_cases hlt : r < I
    · have hiff := HM.out r hlt
      by_cases hMr : M ≤ r
      · have hcnd : (I : Int) - (r : Int) ≤ n := hiff.2 hMr
        obtain ⟨b, o, cp, e, hb, hc⟩ := HA.out.form (by rw [HK.out]; omega)
        obtain ⟨rfl, _, rfl⟩ := Value.slice.inj e
        have c1 := (hR.cell (p := ⟨b, o + r, none⟩) hb).trans (hc r (by rw [HK.out]; omega))
        have hx := HT.out.1 r (by omega) hMr
        have hln := HT.out.2.2 r (by omega)
        obtain ⟨x, hxe⟩ : ∃ x, p.getD r 0 = x := ⟨_, rfl⟩
        rw [hxe] at c1 hx
        obtain ⟨G, hG⟩ : ∃ G, ahT p M r = G := ⟨_, rfl⟩
        rw [hG] at hN hx hln
        obtain ⟨xo, xc, rfl⟩ := hN.shape
        have hgl : G.length ≤ 1000000 := by omega
        have HX := Hid.mk (And.intro hx (And.intro hN hR))
        clear hN hR hx hc e hiff hG hxe hln
        go_wp2_with (at_builtin; refine wpList_append_own_at _ rfl (.tmp 31) (.tmp 36) 30 rfl w.heap.size 3 i0 (.int .i64 0) 1 8 Try.underlying30 hi hz0 hz1 hz2 rfl (by decide) _ _ _ rfl (HX.out.2.1.more (more_alloc wr (.cells #[.int .i64 x] 3))) ⟨wr.heap.size, 0, none⟩ 1 1 [.int .i64 x] rfl rfl (one_cell _ _ _) (one_num _) ?c3 ?c4 ?c5 ?_)
        case c3 => unfold maxLen; omega
        case c4 => omega
        case c5 => have := HX.out.2.2.size; simp; omega
        intro v' w4 hown4 hgrow _ _
        have HN := Hid.mk (And.intro (show NL w4 w.heap.size v' (ahT p M (r + 1)) by rw [HX.out.1]; unfold NL; rw [zs_snoc, List.length_append]; exact hown4) ((More.trans HX.out.2.2 (more_alloc wr _)).grown hgrow (by have := HX.out.2.2.size; simp; omega) (fun k hk => (World.ownsRow.lt HX.out.2.1 k hk).1)))
        obtain ⟨ao4, cap4, rfl⟩ := wshape_of hown4
        clear hown4 hgrow
        go_wp2
        go_roundw
        case rel => exact ⟨r + 1, by omega, by go_num, HN.out.1, HN.out.2⟩
        case measure => simp [intOf]; omega
      · have hcnd : ¬ (I : Int) - (r : Int) ≤ n := fun h => hMr (hiff.1 h)
        have HX := Hid.mk (And.intro hN hR)
        have hx := HT.out.2.1 r hMr
        have HXE := Hid.mk hx
        clear hN hR hiff hx
        go_wp2
        go_roundw
        case rel => exact ⟨r + 1, by omega, by go_num, by rw [HXE.out]; exact HX.out.1, HX.out.2⟩
        case measure => simp [intOf]; omega
    · obtain rfl : r = I := by omega
      have HX := Hid.mk (And.intro hN hR)
      clear hN hR
      go_wp2
      go_ret
      exact ⟨_, rfl, by rw [HS.out]; exact HX.out.1, HX.out.2⟩

/-- A row of lists of the call's own; the lists lie in the world w0. -/
def ERow (w0 w : World) (B : Nat) (r : Value) (G : List (List Int)) : Prop := ∃ vs : List Value, w.ownsRow B 30 1 r G.length vs ∧ ∀ j, j < G.length → IL w0 (vs.getD j undef) (G.getD j [])
theorem ERow.nil (w0 w : World) (B : Nat) : ERow w0 w B (.slice none 0 0) [] := ⟨[], World.ownsRow_nil _ _ _ _, fun j hj => by simp at hj⟩
theorem ERow.more {w0 w w' : World} {B : Nat} {r : Value} {G : List (List Int)} (h : ERow w0 w B r G) (k : More w w') : ERow w0 w' B r G := by
  obtain ⟨vs, h1, h2⟩ := h
  exact ⟨vs, k.own h1, h2⟩
theorem ERow.base {w0 w : World} {B B' : Nat} {r : Value} {G : List (List Int)} (h : ERow w0 w B r G) (k : B' ≤ B) : ERow w0 w B' r G := by
  obtain ⟨vs, h1, h2⟩ := h
  exact ⟨vs, ⟨h1.1, h1.2.imp id fun ⟨g, cap, cur, hv, hb, rest⟩ => ⟨g, cap, cur, hv, Nat.le_trans k hb, rest⟩⟩, h2⟩
theorem ERow.shape {w0 w : World} {B : Nat} {r : Value} {G : List (List Int)} (h : ERow w0 w B r G) : ∃ ao cap, r = .slice ao G.length cap := by
  obtain ⟨vs, h1, _⟩ := h
  exact wshape_of h1
theorem ERow.lt {w0 w : World} {B : Nat} {r : Value} {G : List (List Int)} (h : ERow w0 w B r G) : ∀ k, r.ownBlock = some k → B ≤ k ∧ k < w.heap.size := by
  obtain ⟨vs, h1, _⟩ := h
  exact fun k hk => h1.lt k hk
theorem ERow.at {w0 w : World} {B : Nat} {ao : Option Addr} {n cap j : Nat} {G : List (List Int)} (h : ERow w0 w B (.slice ao n cap) G) (hj : j < G.length) : ∃ g u, ao = some ⟨g, 0, none⟩ ∧ w.cell? ⟨g, j, none⟩ = some u ∧ IL w0 u (G.getD j []) := by
  obtain ⟨vs, h1, h2⟩ := h
  rcases h1.2 with ⟨hv, hn⟩ | ⟨g, cap', cur, hv, hb, hg, h3, h4, h5, h6⟩
  · omega
  · obtain ⟨rfl, e2, e3⟩ := Value.slice.inj hv
    subst e2 e3
    refine ⟨g, vs.getD j undef, rfl, ?_, h2 j hj⟩
    have hvl : vs.length = G.length := by have := h1.1; omega
    rw [h1.cellAt j (by omega), List.getD_eq_getElem?_getD, List.getElem?_eq_getElem (by omega)]
    rfl
theorem getD_app {α : Type} {l m : List α} {d : α} {j : Nat} : (l ++ m).getD j d = if j < l.length then l.getD j d else m.getD (j - l.length) d := by
  split
  · next h => rw [List.getD_eq_getElem?_getD, List.getElem?_append_left h, ← List.getD_eq_getElem?_getD]
  · next h => rw [List.getD_eq_getElem?_getD, List.getElem?_append_right (by omega), ← List.getD_eq_getElem?_getD]
theorem ERow.join {w0 w : World} {B : Nat} {r : Value} {G H : List (List Int)} {vs us : List Value} (hown : w.ownsRow B 30 1 r (G.length + H.length) (vs ++ us)) (hv : vs.length = G.length) (h1 : ∀ j, j < G.length → IL w0 (vs.getD j undef) (G.getD j [])) (h2 : ∀ j, j < H.length → IL w0 (us.getD j undef) (H.getD j [])) : ERow w0 w B r (G ++ H) := by
  refine ⟨vs ++ us, by rw [List.length_append]; exact hown, fun j hj => ?_⟩
  rw [List.length_append] at hj
  rw [getD_app, getD_app, hv]
  split
  · next h => exact h1 j h
  · next h => exact h2 _ (by omega)
theorem row_src {W : World} {B n : Nat} {e : TypeId} {v : Value} {xs : List Value} (h : W.ownsRow B e 1 v n xs) : (v = .slice none 0 0 ∧ n = 0) ∨ ∃ ad c, v = .slice (some ad) n c ∧ ∀ j u, xs[j]? = some u → W.cell? (ad.add j) = some u := by
  rcases h.2 with h0 | ⟨g, cap, cur, hv, _⟩
  · exact .inl h0
  · subst hv
    refine .inr ⟨⟨g, 0, none⟩, cap, rfl, fun j u hj => ?_⟩
    have hlt : j < xs.length := (List.getElem?_eq_some_iff.1 hj).1
    have := h.cellAt j (by have := h.1; omega)
    rw [hj] at this
    by_cases h0 : j = 0
    · subst h0; simpa [Addr.add] using this
    · simpa [Addr.add, h0] using this

set_option maxRecDepth 1000000 in
set_option maxHeartbeats 1600000 in
theorem rf_grams (v : Value) (p : List Int) (m : Int) (w0 w : World) (h : IL w0 v p) (hc : Cap v) (hl : p.length ≤ 1000000) (hm : m ≤ 9223372036854775807) :
    Calls Try.prog 16 #[v, .int .i64 m] w fun e w' => ∃ r, e = .returned r ∧ ERow w0 w' w.heap.size r (grs p m) ∧ More w w' := by
  obtain ⟨i0, hi, hz0, hz1, hz2⟩ := info_parts Try.infoInts
  obtain ⟨ao, cap, rfl⟩ := h.shape
  have hcap := hc.le
  by_cases h1 : m < 1
  · have HN := Hid.mk (show grs p m = [] from List.eq_nil_of_length_eq_zero (by rw [grs_len, cn_low h1]))
    generalize p.length = k at *
    clear h hc
    go_enter Try.func16, Try.ntmps16
    go_wp2
    go_ret
    exact ⟨_, rfl, by rw [HN.out]; exact ERow.nil _ _ _, More.refl _⟩
  obtain ⟨M, rfl⟩ : ∃ M : Nat, m = M := ⟨m.toNat, by omega⟩
  have HA := Hid.mk h
  have HR := Hid.mk (fun r => cn_room (k := p.length) (i := r) (n := (M : Int)) (by omega))
  have HG := Hid.mk (And.intro (grs_len p (M : Int)) (fun r (hr : r < cn p.length (M : Int)) => And.intro (cn_fit hr) (grs_get hr)))
  obtain ⟨k, hke⟩ : ∃ k, p.length = k := ⟨_, rfl⟩
  have HK := Hid.mk (And.intro hke (show ∀ i n c, i + n ≤ p.length → 1 ≤ n → ∃ b o, ao = some ⟨b, o, none⟩ ∧ IL w0 (.slice (some ⟨b, o + i, none⟩) n c) (gr p n i) from fun i n c h5 h6 => by
    obtain ⟨b, o, c', e, hb, _⟩ := h.form (by omega)
    obtain ⟨rfl, _, rfl⟩ := Value.slice.inj e
    exact ⟨b, o, rfl, h.gram h5 h6 _⟩))
  have HC := Hid.mk (cn_le p.length (M : Int))
  rw [hke] at HR HG HC hcap hl ⊢
  clear h hc hke
  go_enter Try.func16, Try.ntmps16
  go_wp2
  go_loopw [5, 6] (fun x i wr => ∃ r : Nat, r ≤ k ∧ i = .int .i64 r ∧ ERow w0 wr w.heap.size x ((grs p (M : Int)).take r) ∧ More w wr) (fun _ i _ => k - (intOf i).toNat)
  case atStart => exact ⟨0, by omega, rfl, by rw [List.take_zero]; exact ERow.nil _ _ _, More.refl w⟩
  case round =>
    obtain ⟨r, hr, rfl, hE, hR⟩ := hrel
    by_cases hlt : r < k
    · have hiff := HR.out r
      obtain ⟨xo, xc, rfl⟩ := hE.shape
      by_cases hin : r < cn k (M : Int)
      · have hcnd : (M : Int) ≤ (k : Int) - (r : Int) := hiff.2 hin
        have hgr := HG.out.2 r hin
        rw [Int.toNat_natCast] at hgr
        obtain ⟨b, o, rfl, hil⟩ := HK.out.2 r M (cap - r) (by rw [HK.out.1]; exact hgr.1.2.1) (by omega)
        have htl : ((grs p (M : Int)).take r).length = r := by rw [List.length_take, HG.out.1]; omega
        have hE2 := hE
        have HX := Hid.mk (And.intro (show (grs p (M : Int)).take (r + 1) = (grs p (M : Int)).take r ++ [gr p M r] by rw [take_in (d := []) (by rw [HG.out.1]; exact hin), hgr.2]) (And.intro hE (And.intro hR (And.intro hil htl))))
        have hne : ¬ cap = r := by omega
        have hrM : (r : Int) + (M : Int) ≤ (cap : Int) := by omega
        obtain ⟨vs, hvs, hvi⟩ := hE2
        have HV := Hid.mk (And.intro hvs hvi)
        rw [htl] at HV ⊢
        clear hE hR hiff hil hgr hvs hvi htl
        go_wp2_with (at_builtin; refine wpList_append_own_at _ rfl (.tmp 22) (.tmp 29) 34 rfl w.heap.size 30 i0 (.slice none 0 0) 1 24 Try.underlying34 hi hz0 hz1 hz2 rfl (by decide) _ _ _ rfl (HV.out.1.alloc _) ⟨wr.heap.size, 0, none⟩ 1 1 [.slice (some ⟨b, o + r, none⟩) M (cap - r)] rfl rfl (one_cell _ _ _) (one_slice _ _ _) ?c3 ?c4 ?c5 ?_)
        case c3 => unfold maxLen; omega
        case c4 => omega
        case c5 => have := HX.out.2.2.1.size; simp; omega
        intro v' w4 hown4 hgrow _ _
        have HN := Hid.mk (And.intro (show ERow w0 w4 w.heap.size v' ((grs p (M : Int)).take (r + 1)) by
          rw [HX.out.1]
          exact ERow.join (H := [gr p M r]) (by rw [HX.out.2.2.2.2]; exact hown4) (by rw [HX.out.2.2.2.2]; have := HV.out.1.1; omega) (by rw [HX.out.2.2.2.2]; exact HV.out.2) (fun j hj => by
            obtain rfl : j = 0 := by simpa using hj
            exact HX.out.2.2.2.1)) ((More.trans HX.out.2.2.1 (more_alloc wr _)).grown hgrow (by have := HX.out.2.2.1.size; simp; omega) (fun k hk => (HV.out.1.lt k hk).1)))
        obtain ⟨ao4, cap4, rfl⟩ := wshape_of hown4
        clear hown4 hgrow
        go_wp2
        go_roundw
        case rel => exact ⟨r + 1, by omega, by go_num, HN.out.1, HN.out.2⟩
        case measure => simp [intOf]; omega
      · have hcnd : ¬ (M : Int) ≤ (k : Int) - (r : Int) := fun h => hin (hiff.1 h)
        have HX := Hid.mk (And.intro (show (grs p (M : Int)).take (r + 1) = (grs p (M : Int)).take r by rw [List.take_of_length_le (by rw [HG.out.1]; omega), List.take_of_length_le (by rw [HG.out.1]; omega)]) (And.intro hE hR))
        clear hE hR hiff
        go_wp2
        go_roundw
        case rel => exact ⟨r + 1, by omega, by go_num, by rw [HX.out.1]; exact HX.out.2.1, HX.out.2.2⟩
        case measure => simp [intOf]; omega
    · obtain rfl : r = k := by omega
      rw [List.take_of_length_le (by rw [HG.out.1]; exact HC.out)] at hE
      have HX := Hid.mk (And.intro hE hR)
      obtain ⟨xo, xc, rfl⟩ := hE.shape
      clear hE hR
      go_wp2
      go_ret
      exact ⟨_, rfl, HX.out.1, HX.out.2⟩
end Go.Proofs.Ytiiflegfbieblaa
