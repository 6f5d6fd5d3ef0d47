/-
  Law 16's live; WindowPads, walked.
-/
import Derived.Test.YtiiflegfbieblaaWinK
namespace Go.Proofs.Ytiiflegfbieblaa
open Go.RowKit

/-- A row of ints that has just been laid. -/
theorem NL.lit {W : World} {cs : Array Value} {l : List Int} {n : Nat} (hn : n = l.length) (hc : cs.toList = zs l) (hl : l.length ≤ 1000) : NL (W.alloc (.cells cs 3)) W.heap.size (.slice (some ⟨W.heap.size, 0, none⟩) n n) l := by
  subst hn
  have hs : cs.size = l.length := by rw [← Array.length_toList, hc, zs_len]
  refine ⟨by rw [zs_len, Nat.mul_one], .inr ⟨W.heap.size, l.length, cs, rfl, Nat.le_refl _, heap_alloc_new W _, Nat.le_refl _, by unfold maxLen; omega, by rw [Nat.mul_one]; exact hs, ?_⟩⟩
  rw [Nat.mul_one, hc, ← zs_len, List.take_length]
theorem ints_lit (u : Value) (l : List Int) (W X : World) (gg n : Nat) (cs : Array Value) (hX : X = W.alloc (.cells cs 3)) (hgg : gg = W.heap.size) (hn : n = l.length) (hc : cs.toList = zs l) (hl : l.length ≤ 1000) (hu : IL W u l) :
    Calls Try.prog 10 #[u, .slice (some ⟨gg, 0, none⟩) n n] X fun e w' => e = .returned (.bool true) ∧ More W w' := by
  subst hX hgg
  refine (rf_intsD u _ l l _ (hu.more (more_alloc _ _)) (NL.lit hn hc hl).il (by omega)).mono ?_
  rintro e w' ⟨rfl, m, rfl⟩
  rw [decide_eq_true rfl]
  exact ⟨rfl, More.trans (more_alloc _ _) (More.drewN _ _)⟩

def exT : List (List UInt8) := [unkW, mkB, mkE, [97], [98]]
theorem exT_wr : wrV exT = 0 := by decide
theorem exT_pad : pad exT [[97], [98]] = [1, 3, 4, 2] := by decide
theorem exT_ct : (eac [[1, 3, 4, 2]] 2).count [3, 4] = 1 := by decide
theorem exT_ah : ahd [1, 3, 4, 2] 2 5 = [1, 3] := by decide

theorem of_live (W X : World) (gg : Nat) (hgg : gg = W.heap.size) (hX : X = W.alloc (.cells #[.string (bs unkW), .string (bs mkB), .string (bs mkE), .string (bs [97]), .string (bs [98])] 9)) :
    Calls Try.prog 9 #[.slice (some ⟨gg, 0, none⟩) 5 5] X fun e w' => ∃ v D, e = .returned (.tuple #[.pointer (some ⟨v, 0, none⟩), .int .i64 0]) ∧ Voc w' D v exT ∧ More W w' := by
  subst hX hgg
  refine (vo_Of _ exT _ (SRd.lit rfl rfl (by decide)).ard (fun ao n c h => by obtain ⟨_, rfl, rfl⟩ := Value.slice.inj h; exact Nat.le_refl _) (by decide) (by decide)).mono ?_
  rintro e w' ⟨p, rfl, hM, hor⟩
  rw [exT_wr]
  rcases hor with ⟨h, _⟩ | ⟨_, v, D, rfl, hV, _⟩
  · exact absurd exT_wr h
  · exact ⟨v, D, rfl, hV, More.trans (more_alloc _ _) hM⟩
theorem pad_live (W X : World) (gg v : Nat) (D : Nat → Prop) (hV : Voc W D v exT) (hgg : gg = W.heap.size) (hX : X = W.alloc (.cells #[.string (bs [97]), .string (bs [98])] 9)) :
    Calls Try.prog 11 #[.pointer (some ⟨v, 0, none⟩), .slice (some ⟨gg, 0, none⟩) 2 2] X fun e w' => ∃ r, e = .returned r ∧ NL w' W.heap.size r [1, 3, 4, 2] ∧ More W w' := by
  subst hX hgg
  have hm := more_alloc W (.cells #[.string (bs [97]), .string (bs [98])] 9)
  refine (w_pad (some ⟨v, 0, none⟩) _ exT [[97], [98]] _ (SRd.lit rfl rfl (by decide)).ard (by decide) (by decide) (fun W2 hM s hs => vo_ID v W2 D exT s (hV.more (More.trans hm hM)) (by decide) hs)).mono ?_
  rintro e w' ⟨r, rfl, hN, hM⟩
  rw [exT_pad] at hN
  exact ⟨r, rfl, hN.base hm.size, More.trans hm hM⟩
theorem count_live (W X : World) (g1 g2 B : Nat) (p : Value) (hp : NL W B p [1, 3, 4, 2]) (h1 : g1 = W.heap.size) (h2 : g2 = W.heap.size + 1) (hX : X = (W.alloc (.cells #[p] 30)).alloc (.cells #[.int .i64 3, .int .i64 4] 3)) :
    Calls Try.prog 20 #[.slice (some ⟨g1, 0, none⟩) 1 1, .slice (some ⟨g2, 0, none⟩) 2 2] X fun e w' => e = .returned (.int .i64 1) ∧ More W w' := by
  subst hX h1 h2
  obtain ⟨W1, hW1⟩ : ∃ W1, W.alloc (.cells #[p] 30) = W1 := ⟨_, rfl⟩
  have hm1 : More W W1 := by rw [← hW1]; exact more_alloc _ _
  have hs1 : W1.heap.size = W.heap.size + 1 := by rw [← hW1]; simp
  have hb : W1.heap[W.heap.size]? = some (.cells #[p] 30 (0, 0)) := by rw [← hW1]; exact heap_alloc_new _ _
  rw [hW1, ← hs1]
  have hm2 := more_alloc W1 (.cells #[.int .i64 3, .int .i64 4] 3)
  have hc := (wcells1 (hm2.at hb)).1
  refine (w_count _ _ [[1, 3, 4, 2]] [3, 4] _ (.inr ⟨W.heap.size, 0, 1, rfl, lt_of_block (hm2.at hb), fun j hj => ?_⟩) (NL.lit rfl rfl (by decide)).il (by decide) (by decide) (by decide)).mono ?_
  · obtain rfl : j = 0 := by simpa using hj
    exact ⟨p, by rw [Nat.zero_add]; exact hc, (hp.more (More.trans hm1 hm2)).il, hp.cap⟩
  · rintro e w' ⟨rfl, hM⟩
    rw [show (([3, 4] : List Int).length : Int) = 2 from rfl, exT_ct]
    exact ⟨rfl, More.trans hm1 (More.trans hm2 hM)⟩
theorem ahead_live (W : World) (B : Nat) (p : Value) (hp : NL W B p [1, 3, 4, 2]) :
    Calls Try.prog 22 #[p, .int .i64 2, .int .i64 5] W fun e w' => ∃ r, e = .returned r ∧ NL w' W.heap.size r [1, 3] ∧ More W w' := by
  refine (w_ahead p [1, 3, 4, 2] 2 5 W hp.il hp.cap (by decide) (by decide)).mono ?_
  rintro e w' ⟨r, rfl, hN, hM⟩
  rw [exT_ah] at hN
  exact ⟨r, rfl, hN, hM⟩

set_option maxRecDepth 1000000 in
set_option maxHeartbeats 3200000 in
theorem live_true (w : World) : Calls Try.prog 8 #[] w fun e w' => e = .returned (.bool true) ∧ More w w' := by
  have T1 := Hid.mk True.intro
  go_enter Try.func8, Try.ntmps8
  go_wp2_with (first
    | (go_at_call 9; refine (of_live w _ _ ?_ rfl).mono ?_; (first | rfl | simp)
       rintro e w1 ⟨v, D, rfl, hV, hM⟩; have H1 := Hid.mk (And.intro hV hM); clear hV hM)
    | (go_at_call 11; refine (pad_live w1 _ _ v D H1.out.1 ?_ rfl).mono ?_; (first | rfl | simp)
       rintro e w2 ⟨p, rfl, hN, hM⟩; obtain ⟨po, pc, hpe⟩ := hN.shape; rw [show ([1, 3, 4, 2] : List Int).length = 4 from rfl] at hpe; subst hpe; have H2 := Hid.mk (And.intro hN (More.trans H1.out.2 hM)); clear hN hM)
    | (have TT := T1; go_at_call 10; clear T1 TT; refine (ints_lit _ [1, 3, 4, 2] w2 _ _ _ _ rfl ?_ rfl rfl (by decide) H2.out.1.il).mono ?_; (first | rfl | simp)
       rintro e w3 ⟨rfl, hM⟩; have H3 := Hid.mk (And.intro (H2.out.1.more hM) (More.trans H2.out.2 hM)); clear hM)
    | (go_at_call 20; refine (count_live w3 _ _ _ _ _ H3.out.1 ?_ ?_ rfl).mono ?_; (first | rfl | simp); (first | rfl | simp)
       rintro e w4 ⟨rfl, hM⟩; have H4 := Hid.mk (And.intro (H3.out.1.more hM) (More.trans H3.out.2 hM)); clear hM)
    | (go_at_call 22; refine (ahead_live w4 _ _ H4.out.1).mono ?_; rintro e w5 ⟨r5, rfl, hN, hM⟩; obtain ⟨ro, rc, hre⟩ := hN.shape; rw [show ([1, 3] : List Int).length = 2 from rfl] at hre; subst hre; have H5 := Hid.mk (And.intro hN (More.trans H4.out.2 hM)); clear hN hM)
    | (go_at_call 10; refine (ints_lit _ [1, 3] w5 _ _ _ _ rfl ?_ rfl rfl (by decide) H5.out.1.il).mono ?_; (first | rfl | simp)
       rintro e w6 ⟨rfl, hM⟩; have H6 := Hid.mk (More.trans H5.out.2 hM); clear hM))
  go_ret
  exact ⟨rfl, H6.out⟩

set_option maxRecDepth 1000000 in
set_option maxHeartbeats 6400000 in
theorem windowPads (a b : Value) (ts ws : List (List UInt8)) (l : List UInt8) (w : World) (ha : ARd w a ts) (hcap : ∀ ao n c, a = .slice ao n c → n ≤ c) (hx : ∀ x ∈ ts, x.length ≤ 281474976710656)
    (hb : ARd w b ws) (hxb : ∀ x ∈ ws, x.length ≤ 281474976710656) (hl : l.length ≤ 9223372036854775807) :
    Calls Try.prog 3 #[a, b, .string (bs l)] w fun e w' => e = .returned (.bool true) ∧ More w w' := by
  have hlv := fun w => live_true w
  have hsz : (bs l).size = l.length := bs_size l
  by_cases h1 : 30 < ts.length
  · obtain ⟨ao, ca, rfl⟩ := ha.shape
    obtain ⟨bo, cb, rfl⟩ := hb.shape
    have h1' : (30 : Int) < ts.length := by omega
    generalize ts.length = n at *
    generalize ws.length = m at *
    generalize l.length = k at *
    clear ha hb hcap hx hxb
    go_enter Try.func3, Try.ntmps3
    go_wp2_with (go_at_call 8; refine (hlv _).mono ?_; rintro e w1 ⟨rfl, hm⟩)
    go_ret
    exact ⟨rfl, hm⟩
  have h1' : ¬ (30 : Int) < ts.length := by omega
  by_cases h2 : 60 < ws.length
  · obtain ⟨ao, ca, rfl⟩ := ha.shape
    obtain ⟨bo, cb, rfl⟩ := hb.shape
    have h2' : (60 : Int) < ws.length := by omega
    generalize ts.length = n at *
    generalize ws.length = m at *
    generalize l.length = k at *
    clear ha hb hcap hx hxb
    go_enter Try.func3, Try.ntmps3
    go_wp2_with (go_at_call 8; refine (hlv _).mono ?_; rintro e w1 ⟨rfl, hm⟩)
    go_ret
    exact ⟨rfl, hm⟩
  have h2' : ¬ (60 : Int) < ws.length := by omega
  by_cases h3 : 400 < l.length
  · obtain ⟨ao, ca, rfl⟩ := ha.shape
    obtain ⟨bo, cb, rfl⟩ := hb.shape
    have h3' : (400 : Int) < l.length := by omega
    generalize ts.length = n at *
    generalize ws.length = m at *
    generalize l.length = k at *
    clear ha hb hcap hx hxb
    go_enter Try.func3, Try.ntmps3
    go_wp2_with (go_at_call 8; refine (hlv _).mono ?_; rintro e w1 ⟨rfl, hm⟩)
    go_ret
    exact ⟨rfl, hm⟩
  have h3' : ¬ (400 : Int) < l.length := by omega
  have hwr := rf_wrong a ts w ha hcap (by omega) hx
  by_cases hR : wrV ts = 0
  · have hof : ∀ W, More w W → Calls Try.prog 9 #[a] W fun e w' => ∃ v D, e = .returned (.tuple #[.pointer (some ⟨v, 0, none⟩), .int .i64 0]) ∧ Voc w' D v ts ∧ More W w' := fun W hW => by
      refine (vo_Of a ts W (ha.more hW) hcap (by omega) hx).mono ?_
      rintro e w' ⟨p, rfl, hM, hor⟩
      rw [hR]
      rcases hor with ⟨h, _⟩ | ⟨_, v, D, rfl, hV, _⟩
      · exact absurd hR h
      · exact ⟨v, D, rfl, hV, hM⟩
    rw [hR] at hwr
    have hp1 := fun (W : World) (v : Nat) (D : Nat → Prop) (hM : More w W) (hV : Voc W D v ts) => w_pad (some ⟨v, 0, none⟩) b ts ws W (hb.more hM) (by omega) hxb (fun W2 hM2 s hs => vo_ID v W2 D ts s (hV.more hM2) (by omega) hs)
    have hp2 := fun (W : World) (hM : More w W) => rf_pad a b ts ws W (ha.more hM) (hb.more hM) (by omega) (by omega)
    have his := fun (x y : Value) (W : World) (B1 B2 : Nat) (h1 : NL W B1 x (pad ts ws)) (h2 : NL W B2 y (pad ts ws)) => rf_intsD x y _ _ W h1.il h2.il (by rw [pad_len]; omega)
    have ha1 := fun (W : World) (v : Nat) (D : Nat → Prop) (hV : Voc W D v ts) => w_all v D ts l W hV (by omega) (by omega)
    have ha2 := fun (W : World) (hM : More w W) => rf_allp a ts l W (ha.more hM) (by omega) (by omega)
    have hsm := all_small l
    have hrw := fun (x y : Value) (W1 W2 W : World) (h1 : Pds W1 x ((allS l).map (pad ts)) W) (h2 : Pds W2 y ((allS l).map (pad ts)) W) => rf_rows x y _ W h1.lr h2.lr (by rw [List.length_map]; omega) (fun p hp => by
      obtain ⟨s, hs, rfl⟩ := List.mem_map.1 hp
      have := (hsm.2 s hs).1
      rw [pad_len]; omega)
    rw [decide_eq_true rfl] at his
    obtain ⟨ao, ca, rfl⟩ := ha.shape
    obtain ⟨bo, cb, rfl⟩ := hb.shape
    generalize (allS l).map (pad ts) = G at *
    generalize pad ts ws = P at *
    generalize ts.length = n at *
    generalize ws.length = m at *
    generalize l.length = k at *
    clear ha hb hcap hx hxb hR h1 h2 h3 hsm
    go_enter Try.func3, Try.ntmps3
    go_wp2_with (first
      | (go_at_call 7; refine hwr.mono ?_; rintro e w1 ⟨rfl, hM⟩; have H1 := Hid.mk hM; clear hM hwr)
      | (go_at_call 9; refine (hof _ H1.out).mono ?_; rintro e w2 ⟨v, D, rfl, hV, hM⟩; have H2 := Hid.mk (And.intro hV (More.trans H1.out hM)); clear hV hM hof)
      | (go_at_call 11; refine (hp1 _ v D H2.out.2 H2.out.1).mono ?_; rintro e w3 ⟨r3, rfl, hN, hM⟩; have H3 := Hid.mk (And.intro hN (And.intro hM (More.trans H2.out.2 hM))); clear hN hM hp1)
      | (go_at_call 12; refine (hp2 _ H3.out.2.2).mono ?_; rintro e w4 ⟨r4, rfl, hN, hM⟩; have H4 := Hid.mk (And.intro hN (And.intro hM (More.trans H3.out.2.2 hM))); clear hN hM hp2)
      | (go_at_call 10; refine (his _ _ _ _ _ (H3.out.1.more H4.out.2.1) H4.out.1).mono ?_; rintro e w5 ⟨rfl, q, hw5⟩; have H5 := Hid.mk (show Voc w5 D v ts ∧ More w w5 by rw [hw5]; exact ⟨(H2.out.1.more (More.trans H3.out.2.1 H4.out.2.1)).more (More.drewN _ _), More.trans H4.out.2.2 (More.drewN _ _)⟩); clear hw5 his)
      | (go_at_call 14; refine (ha1 _ v D H5.out.1).mono ?_; rintro e w6 ⟨r6, rfl, hP⟩; have H6 := Hid.mk (And.intro hP (More.trans H5.out.2 hP.more)); clear hP ha1)
      | (go_at_call 15; refine (ha2 _ H6.out.2).mono ?_; rintro e w7 ⟨r7, rfl, hP⟩; have H7 := Hid.mk (And.intro hP (More.trans H6.out.2 hP.more)); clear hP ha2)
      | (go_at_call 13; refine (hrw _ _ _ _ _ (H6.out.1.later H7.out.1.more) H7.out.1).mono ?_; rintro e w8 ⟨rfl, q, hw8⟩; have H8 := Hid.mk (show More w w8 by rw [hw8]; exact More.trans H7.out.2 (More.drewN _ _)); clear hw8 hrw)
      | (go_at_call 8; refine (hlv _).mono ?_; rintro e w9 ⟨rfl, hM⟩; have H9 := Hid.mk hM; clear hM))
    go_ret
    exact ⟨rfl, More.trans H8.out H9.out⟩
  · obtain ⟨ao, ca, rfl⟩ := ha.shape
    obtain ⟨bo, cb, rfl⟩ := hb.shape
    generalize wrV ts = R at *
    have hR1 : ((R : Int) != 0) = true := by simpa using hR
    have hR2 : ¬ (R : Int) = 0 := by omega
    generalize ts.length = n at *
    generalize ws.length = m at *
    generalize l.length = k at *
    clear ha hb hcap hx hxb hR h1 h2 h3
    go_enter Try.func3, Try.ntmps3
    go_wp2_with (first
      | (go_at_call 7; refine hwr.mono ?_; rintro e w1 ⟨rfl, hM⟩; have H1 := Hid.mk hM; clear hM hwr)
      | (go_at_call 8; refine (hlv _).mono ?_; rintro e wD ⟨rfl, hM⟩; have HD := Hid.mk hM; clear hM))
    go_ret
    exact ⟨rfl, More.trans H1.out HD.out⟩
end Go.Proofs.Ytiiflegfbieblaa
