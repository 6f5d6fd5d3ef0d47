/-
  SeqbinRows walked.
-/
import Derived.Test.YtbfolfacppbalaaDoorSbLive
import Derived.Test.YtbfolfacppbalaaDoorSbRefD
import Derived.Test.YtbfolfacppbalaaDoorPackOf
import Derived.Test.YtbfolfacppbalaaDoorBuilt
namespace Go.Proofs.YtbfolfacppbalaaDoor
open Go.RowKit

/-- What is wrong in the end. -/
def rErr (er : Nat) : Nat := if er = 0 then 3 else er
theorem rErr_ne (er : Nat) : rErr er ≠ 0 := by unfold rErr; split <;> omega
theorem getRow_bad (base b a E n t er : Nat) (z : Int) (v l : List UInt8) (w : World) (h : RdAt w base b l a E) (hz : max z 0 = (n : Int)) (hn : n ≤ 9223372036854775807) (hq : st E [] (rdR (l.drop a) (nby n : Nat)) = (v, t, er)) (hbad : ¬ (er = 0 ∧ ofB v < 2 ^ n)) :
    Calls Tryd.prog 12 #[.pointer (some ⟨b, 0, none⟩), .int .i64 z] w fun e w' => e = .returned (.pointer none) ∧ RdAt w' base b l (a + t) (rErr er) ∧ KeepsT RT base w w' :=
  (sb_getRow base b a E n t er z v l w h hz hn hq).mono fun e w' hg => by
    rcases hg.what with ⟨h1, h2, h3⟩ | ⟨h1, h2, _⟩ | ⟨h1, _, h2, h3⟩
    · exact ⟨h2, by unfold rErr; rw [if_neg h1]; exact h3, hg.keeps⟩
    · exact absurd ⟨h1, h2⟩ hbad
    · exact ⟨h2, by unfold rErr; rw [if_pos h1]; exact h3, hg.keeps⟩
theorem docRow_bad (base x E n t er : Nat) (z : Int) (v l : List UInt8) (w : World) (h : XAt w base x l E) (hz : max z 0 = (n : Int)) (hn : n ≤ 9223372036854775807) (hq : st E [] (rdR l (nby n : Nat)) = (v, t, er)) (hbad : ¬ (er = 0 ∧ ofB v < 2 ^ n)) :
    Calls Tryd.prog 17 #[.pointer (some ⟨x, 0, none⟩), .int .i64 z] w fun e w' => e = .returned (.slice none 0 0) ∧ XAt w' base x (l.drop t) (rErr er) ∧ KeepsT XT base w w' :=
  (rsb_getRow base x E n t er z v l w h hz hn hq).mono fun e w' hg => by
    rcases hg.what with ⟨h1, h2, h3⟩ | ⟨h1, h2, _⟩ | ⟨h1, _, h2, h3⟩
    · exact ⟨h2, by unfold rErr; rw [if_neg h1]; exact h3, hg.keeps⟩
    · exact absurd ⟨h1, h2⟩ hbad
    · exact ⟨h2, by unfold rErr; rw [if_pos h1]; exact h3, hg.keeps⟩
theorem xr_new (w : World) (l : List UInt8) (hl : l.length ≤ 100000000) : XAt (w.alloc (.cells #[.string (bs l), .int .i64 0] 44)) w.heap.size w.heap.size l 0 :=
  ⟨Nat.le_refl _, by simp, hl, heap_alloc_new _ _⟩
theorem rd_few {l v : List UInt8} {n t : Nat} (h : st 0 [] (rdR l (nby n : Nat)) = (v, t, 0)) : nby n ≤ l.length := by
  rw [st_ok] at h
  unfold rdR at h
  rw [if_neg (by omega), Int.toNat_natCast] at h
  unfold cutR at h
  split at h
  · simp at h
  · omega

set_option linter.unusedSimpArgs false in
set_option maxHeartbeats 12800000 in
set_option maxRecDepth 1000000 in
theorem sb_rows_bad (v : Value) (K : Nat) (pW : Nat → Nat) (pN : Nat → Int) (sl : List UInt8) (z : Int) (w : World) (h : PRd w v K pW pN) (hz1 : z ≤ 9223372036854775807) (hT : TabIn w) (hK : K ≤ 30) (hsl : sl.length ≤ 300) (n0 t er : Nat) (u : List UInt8) (hz : max z 0 = (n0 : Int)) (hq : st 0 [] (rdR sl (nby n0 : Nat)) = (u, t, er)) (hbad : ¬ (er = 0 ∧ ofB u < 2 ^ n0)) :
    Calls Tryd.prog 3 #[v, .string (bs sl), .int .i64 z] w fun e w' => e = .returned (.bool true) ∧ More w w' := by
  have hsz : (bs sl).size = sl.length := bs_size sl
  have hbu := built v K pW pN w h (by omega)
  obtain ⟨ao, cap, rfl⟩ := h.shape
  have hopen := fun w => rd_open sl (by omega) w
  have hput := fun base wb b V n (w' : World) (h1 : WrAt w' base wb []) (h2 : RowRd w' b V n) (h3 : n ≤ 1920) => sb_putRow base wb b V n [] w' h1 h2 (by omega) (by decide)
  simp only [List.nil_append] at hput
  have hg1 := fun base b V n (w' : World) (h0 : V < 2 ^ n) (hn : n ≤ 1920) (h1 : RdAt w' base b (rby V n ++ sl) 0 0) => getRow_row base b 0 0 n (nby n) (n : Int) (rby V n) (rby V n ++ sl) w' h1 (by omega) (by omega) (by rw [List.drop_zero, st_ok]; have := rdR_all (rby V n) sl; rw [rby_len] at this; exact this) (by rw [ofB_rby h0]; exact h0)
  simp only [Nat.zero_add] at hg1
  have HT := Hid.mk hT
  have HS := Hid.mk (show sl.length ≤ 300 from hsl)
  have hdoc := fun (w' : World) => docRow_bad _ _ 0 n0 t er z u sl _ (xr_new w' sl (by omega)) hz (by omega) hq hbad
  have hget := fun base b (w' : World) (h1 : RdAt w' base b sl 0 0) => getRow_bad base b 0 0 n0 t er z u sl w' h1 hz (by omega) (by rw [List.drop_zero]; exact hq) hbad
  obtain ⟨G, hG⟩ : ∃ G, rErr er = G := ⟨_, rfl⟩
  have hG0 : G ≠ 0 := by rw [← hG]; exact rErr_ne er
  simp only [hG, Nat.zero_add] at hget hdoc
  have hGi : ¬ (G : Int) = 0 := by omega
  obtain ⟨M, hM⟩ : ∃ M, sl.length = M := ⟨_, rfl⟩
  rw [hM] at hsz hsl
  clear hq hbad hG hT h hz hz1
  go_enter Tryd.func3, Tryd.ntmps3
  go_wp2_with (first
    | (go_at_call 8; refine hbu.mono ?_; rintro e w1 ⟨b, vo, V, n, rfl, _, hnK, hrow1, hown1, hm1⟩; obtain ⟨av, cv, rfl⟩ := shape_of hown1; have hn1 : n ≤ 1920 := (by omega); have hfit1 := hrow1.fit; have hrl : (rby V n).length = nby n := rby_len V n; have hnb1 : nby n ≤ 240 := (by rw [nby_is]; omega); have hadd1 := (fun w => add_sum (rby V n) sl (by rw [hrl]; have := HS.out; omega) w); have hop1 := (fun w => rd_open (rby V n ++ sl) (by rw [List.length_append, hrl]; have := HS.out; omega) w); have hgg := (fun base b w' h => hg1 base b V n w' hfit1 hn1 h); rw [ofB_rby hfit1] at hgg; have hdl1 : Hid (((rby V n ++ sl).drop (nby n)).length = sl.length) := Hid.mk (by rw [← hrl, List.drop_left]); obtain ⟨L, hL⟩ : ∃ L, rby V n = L := ⟨_, rfl⟩; have hpu := hput w1.heap.size w1.heap.size b V n _ (WrAt.new w1) (hrow1.rd.more (More.alloc _ _)) hn1; have hrr := (fun (w' : World) (hm : More w1 w') => rsb_row (.slice av n cv) n V w' (brd_of_own (More.own hown1 hm)) hfit1 (by omega)); rw [hL] at hadd1 hop1 hdl1 hrl; simp only [hL] at hgg hpu hrr; obtain ⟨Z, hZ⟩ : ∃ Z, L ++ sl = Z := ⟨_, rfl⟩; rw [hZ] at hop1 hdl1; simp only [hZ] at hadd1 hgg; have H1 := Hid.mk (And.intro hrow1 (And.intro hown1 (And.intro hm1 (More.tab HT.out hm1)))); clear hrow1 hown1 hm1 hbu hg1 hput hL hZ hnK hrl hnb1 hfit1)
    | (go_at_call 9; refine hpu.mono ?_; rintro e w2 ⟨rfl, hw2, hk2⟩; have hm2 : More w1 w2 := Below.trans (More.alloc w1 _) hk2.below; have hby2 := wr_bytes _ _ _ w2 hw2; have H2 := Hid.mk (And.intro hw2 (And.intro hm2 (More.tab H1.out.2.2.2 hm2))); clear hw2 hk2 hm2 hpu)
    | (go_at_call 11; refine hby2.mono ?_; rintro e w' ⟨rfl, hw⟩; subst w'; clear hby2)
    | (go_at_call 10; refine (hop1 w2).mono ?_; rintro e w3 ⟨rfl, hr3, hm3⟩; have H3 := Hid.mk (And.intro hr3 (And.intro hm3 (More.tab H2.out.2.2 hm3))); clear hr3 hm3 hop1)
    | (go_at_call 12; refine (hgg w2.heap.size w2.heap.size w3 H3.out.1).mono ?_; rintro e w4 ⟨r4, rfl, hrow4, hr4, hk4⟩; have hm4 : More w2 w4 := Below.trans H3.out.2.1 hk4.below; have hm14 := More.trans H2.out.2.1 hm4; have hby4 := wr_bytes _ _ _ w4 (H2.out.1.more hm4); have hrr4 := hrr w4 hm14; have H4 := Hid.mk (And.intro hrow4 (And.intro hr4 (And.intro hm14 (More.tab H1.out.2.2.2 hm14)))); clear hrow4 hr4 hk4 hm4 hm14 hgg hrr)
    | (go_at_call 11; refine hby4.mono ?_; rintro e w' ⟨rfl, hw⟩; subst w'; clear hby4)
    | (go_at_call 13; refine hrr4.mono ?_; rintro e w5 ⟨rfl, hm5⟩; have hsm := same_rows r4 V n b V n w5 (More.row H4.out.1 hm5).rd (More.row H1.out.1 (More.trans H4.out.2.2.1 hm5)).rd; rw [show decide (n = n ∧ V = V) = true by simp] at hsm; have H5 := Hid.mk (And.intro (H4.out.2.1.more hm5) (And.intro (More.trans H4.out.2.2.1 hm5) (More.tab H4.out.2.2.2 hm5))); clear hm5 hrr4)
    | (go_at_call 14; refine hsm.mono ?_; rintro e w6 ⟨rfl, m6, hw6⟩; have hm6 : More w5 w6 := (by rw [hw6]; exact More.drewN w5 m6); have hle6 := rd_left _ _ _ _ _ w6 (H5.out.1.more hm6); rw [hdl1.out] at hle6; have H6 := Hid.mk (And.intro (H5.out.1.more hm6) (And.intro (More.trans H5.out.2.1 hm6) (More.tab H5.out.2.2 hm6))); clear hw6 hm6 hsm)
    | (go_at_call 15; refine hle6.mono ?_; rintro e w7 ⟨rfl, m7, hw7⟩; have hm7 : More w6 w7 := (by rw [hw7]; exact More.drewN w6 m7); have her7 := rd_err _ _ _ _ _ w7 (H6.out.1.more hm7); rw [Int.natCast_zero] at her7; have hm07 := More.trans H1.out.2.2.1 (More.trans H6.out.2.1 hm7); have H7 := Hid.mk (And.intro hm07 (More.tab HT.out hm07)); have hdoc7 := hdoc w7; clear hw7 hm7 hle6 hm07 hdoc)
    | (go_at_call 16; refine her7.mono ?_; rintro e w' ⟨rfl, hw⟩; subst w'; clear her7)
    | (go_at_call 17; refine hdoc7.mono ?_; rintro e w8 ⟨rfl, hx8, hk8⟩; have hm8 : More w7 w8 := Below.trans (More.alloc w7 _) hk8.below; have H8 := Hid.mk (And.intro hx8 (And.intro hm8 (More.tab H7.out.2 hm8))); clear hx8 hk8 hm8 hdoc7)
    | (go_at_call 10; refine (hopen w8).mono ?_; rintro e w9 ⟨rfl, hr9, hm9⟩; have hgt9 := hget w8.heap.size w8.heap.size w9 hr9; have H9 := Hid.mk hm9; clear hr9 hm9 hopen hget)
    | (go_at_call 12; refine hgt9.mono ?_; rintro e w10 ⟨rfl, hr10, hk10⟩; have hm10 : More w8 w10 := Below.trans H9.out hk10.below; have hx10 := H8.out.1.more hm10; obtain ⟨c0, c1, z0, z1⟩ := wcells2 hx10.mem; have H10 := Hid.mk (And.intro hr10 (And.intro (More.trans H7.out.1 (More.trans H8.out.2.1 hm10)) (And.intro (More.tab H8.out.2.2 hm10) hx10))); clear hr10 hk10 hm10 hgt9 hx10))
  refine wp_region_any (by kernel_rfl) ?_
  change wpAny _ _ _ _ _ _ _ (World.drew _)
  obtain ⟨w11, hw11⟩ : ∃ w11, World.drew w10 = w11 := ⟨_, rfl⟩
  rw [hw11]
  have hm11 : More w10 w11 := by rw [← hw11]; exact More.drew _
  clear hw11
  have hx11 := H10.out.2.2.2.more hm11
  obtain ⟨d0, d1, y0, y1⟩ := wcells2 hx11.mem
  have hS : w11.cell? ⟨w7.heap.size, 0, none⟩ = some (.string (bs (sl.drop t))) ∧ w11.cell? ⟨w7.heap.size, 1, none⟩ = some (.int .i64 G) := ⟨d0, d1⟩
  have her := rd_err _ _ _ _ _ w11 (H10.out.1.more hm11)
  have H11 := Hid.mk (And.intro (More.trans H10.out.2.1 hm11) (And.intro (More.tab H10.out.2.2.1 hm11) hx11))
  have hlv := sb_live w11 H11.out.2.1
  clear hm11 hx11 d0 d1 y0 y1 c0 c1 z0 z1 H10 H9 H8 H6 H5 H4 H3 H2 H1
  refine wpAny_of_held (S := fun w' => w'.cell? ⟨w7.heap.size, 0, none⟩ = some (.string (bs (sl.drop t))) ∧ w'.cell? ⟨w7.heap.size, 1, none⟩ = some (.int .i64 G)) _ _ _ _ ?_
  refine wpAnyH_take (i := 0) (v := ?vb0) rfl (by kernel_rfl) (by kernel_rfl) (by kernel_rfl) (fun _ _ _ h => h) (Or.inl ⟨by rfl, ?yb0⟩) (by assumption) ?_
  case yb0 => intro wq hSw; (try dsimp only at hSw); (go_simp) <;> with_reducible rfl
  try simp only [Act.put, List.getElem_toArray, List.getElem_cons_zero, List.getElem_cons_succ, List.setIfInBounds_toArray, List.set_cons_zero, List.set_cons_succ]
  refine wpAnyH_take (i := 1) (v := ?vb1) rfl (by kernel_rfl) (by kernel_rfl) (by kernel_rfl) (fun _ _ _ h => h) (Or.inl ⟨by rfl, ?yb1⟩) (by assumption) ?_
  case yb1 => intro wq hSw; (try dsimp only at hSw); (go_simp) <;> with_reducible rfl
  try simp only [Act.put, List.getElem_toArray, List.getElem_cons_zero, List.getElem_cons_succ, List.setIfInBounds_toArray, List.set_cons_zero, List.set_cons_succ]
  refine wpAnyH_take (i := 2) (v := ?vb2) rfl (by kernel_rfl) (by kernel_rfl) (by kernel_rfl) (fun _ _ _ h => h) (Or.inl ⟨by rfl, ?yb2⟩) (by assumption) ?_
  case yb2 => intro wq hSw; (try dsimp only at hSw); (go_simp) <;> with_reducible rfl
  try simp only [Act.put, List.getElem_toArray, List.getElem_cons_zero, List.getElem_cons_succ, List.setIfInBounds_toArray, List.set_cons_zero, List.set_cons_succ]
  refine wpAnyH_take (i := 3) (v := ?vb3) rfl (by kernel_rfl) (by kernel_rfl) (by kernel_rfl) (fun _ _ _ h => h) (Or.inl ⟨by rfl, ?yb3⟩) (by assumption) ?_
  case yb3 => intro wq hSw; (try dsimp only at hSw); (go_simp) <;> with_reducible rfl
  try simp only [Act.put, List.getElem_toArray, List.getElem_cons_zero, List.getElem_cons_succ, List.setIfInBounds_toArray, List.set_cons_zero, List.set_cons_succ]
  refine wpAnyH_take (i := 5) (v := ?vb5) rfl (by kernel_rfl) (by kernel_rfl) (by kernel_rfl) (fun _ _ _ h => h) (Or.inl ⟨by rfl, ?yb5⟩) (by assumption) ?_
  case yb5 => intro wq hSw; (try dsimp only at hSw); (go_simp) <;> with_reducible rfl
  try simp only [Act.put, List.getElem_toArray, List.getElem_cons_zero, List.getElem_cons_succ, List.setIfInBounds_toArray, List.set_cons_zero, List.set_cons_succ]
  refine wpAnyH_take (i := 6) (v := ?vb6) rfl (by kernel_rfl) (by kernel_rfl) (by kernel_rfl) (fun _ _ _ h => h) (Or.inl ⟨by rfl, ?yb6⟩) (by assumption) ?_
  case yb6 => intro wq hSw; (try dsimp only at hSw); (go_simp) <;> with_reducible rfl
  try simp only [Act.put, List.getElem_toArray, List.getElem_cons_zero, List.getElem_cons_succ, List.setIfInBounds_toArray, List.set_cons_zero, List.set_cons_succ]
  refine wpAnyH_take (i := 7) (v := ?vb7) rfl (by kernel_rfl) (by kernel_rfl) (by kernel_rfl) (fun _ _ _ h => h) (Or.inl ⟨by rfl, ?yb7⟩) (by assumption) ?_
  case yb7 => intro wq hSw; (try dsimp only at hSw); (go_simp) <;> with_reducible rfl
  try simp only [Act.put, List.getElem_toArray, List.getElem_cons_zero, List.getElem_cons_succ, List.setIfInBounds_toArray, List.set_cons_zero, List.set_cons_succ]
  refine wpAnyH_take (i := 8) (v := ?vb8) rfl (by kernel_rfl) (by kernel_rfl) (by kernel_rfl) (fun _ _ _ h => h) (Or.inl ⟨by rfl, ?yb8⟩) (by assumption) ?_
  case yb8 => intro wq hSw; (try dsimp only at hSw); (go_simp) <;> with_reducible rfl
  try simp only [Act.put, List.getElem_toArray, List.getElem_cons_zero, List.getElem_cons_succ, List.setIfInBounds_toArray, List.set_cons_zero, List.set_cons_succ]
  refine wpAnyH_ready (rs := [4]) (by kernel_rfl) (by simp) ?_
  refine AllReadyH.cons rfl (fun K4 hK4 => ?_) AllReadyH.nil
  go_simp
  go_wp2_with (go_at_call 16; refine her.mono ?_; rintro e w' ⟨rfl, hw⟩; subst w'; clear her)
  refine hK4.out _ _ hS (fun hHeld => ?_)
  clear hK4 K4 hHeld
  try simp only [Act.put, List.getElem_toArray, List.getElem_cons_zero, List.getElem_cons_succ, List.setIfInBounds_toArray, List.set_cons_zero, List.set_cons_succ]
  refine wpAnyH_take (i := 9) (v := ?vb9) rfl (by kernel_rfl) (by kernel_rfl) (by kernel_rfl) (fun _ _ _ h => h) (Or.inl ⟨by rfl, ?yb9⟩) (by assumption) ?_
  case yb9 => intro wq hSw; (try dsimp only at hSw); (go_simp) <;> with_reducible rfl
  try simp only [Act.put, List.getElem_toArray, List.getElem_cons_zero, List.getElem_cons_succ, List.setIfInBounds_toArray, List.set_cons_zero, List.set_cons_succ]
  refine wpAnyH_take (i := 10) (v := ?vb10) rfl (by kernel_rfl) (by kernel_rfl) (by kernel_rfl) (fun _ _ _ h => h) (Or.inl ⟨by rfl, ?yb10⟩) (by assumption) ?_
  case yb10 => intro wq hSw; (try dsimp only at hSw); (go_simp) <;> with_reducible rfl
  try simp only [Act.put, List.getElem_toArray, List.getElem_cons_zero, List.getElem_cons_succ, List.setIfInBounds_toArray, List.set_cons_zero, List.set_cons_succ]
  refine wpAnyH_take (i := 11) (v := ?vb11) rfl (by kernel_rfl) (by kernel_rfl) (by kernel_rfl) (fun _ _ _ h => h) (Or.inl ⟨by rfl, ?yb11⟩) (by assumption) ?_
  case yb11 => intro wq hSw; (try dsimp only at hSw); (go_simp) <;> with_reducible rfl
  try simp only [Act.put, List.getElem_toArray, List.getElem_cons_zero, List.getElem_cons_succ, List.setIfInBounds_toArray, List.set_cons_zero, List.set_cons_succ]
  refine wpAnyH_ready (rs := [12]) (by kernel_rfl) (by simp) ?_
  refine AllReadyH.cons rfl (fun K12 hK12 => ?_) AllReadyH.nil
  go_simp
  go_wp2_with (go_at_call 7; refine hlv.mono ?_; rintro e w12 ⟨rfl, hm12⟩; have hx12 := H11.out.2.2.more hm12; obtain ⟨d0, d1, y0, y1⟩ := wcells2 hx12.mem; have hS12 : w12.cell? ⟨w7.heap.size, 0, none⟩ = some (.string (bs (sl.drop t))) ∧ w12.cell? ⟨w7.heap.size, 1, none⟩ = some (.int .i64 G) := ⟨d0, d1⟩; have HZ := Hid.mk (More.trans H11.out.1 hm12); clear hm12 hx12 d0 d1 y0 y1 hlv)
  refine hK12.out _ _ hS12 (fun hHeld => ?_)
  clear hK12 K12 hHeld
  try simp only [Act.put, List.getElem_toArray, List.getElem_cons_zero, List.getElem_cons_succ, List.setIfInBounds_toArray, List.set_cons_zero, List.set_cons_succ]
  refine wpAnyH_take (i := 13) (v := ?vb13) rfl (by kernel_rfl) (by kernel_rfl) (by kernel_rfl) (fun _ _ _ h => h) (Or.inl ⟨by rfl, ?yb13⟩) (by assumption) ?_
  case yb13 => intro wq hSw; (try dsimp only at hSw); (go_simp) <;> with_reducible rfl
  try simp only [Act.put, List.getElem_toArray, List.getElem_cons_zero, List.getElem_cons_succ, List.setIfInBounds_toArray, List.set_cons_zero, List.set_cons_succ]
  refine wpAnyH_take (i := 14) (v := ?vb14) rfl (by kernel_rfl) (by kernel_rfl) (by kernel_rfl) (fun _ _ _ h => h) (Or.inl ⟨by rfl, ?yb14⟩) (by assumption) ?_
  case yb14 => intro wq hSw; (try dsimp only at hSw); (go_simp) <;> with_reducible rfl
  try simp only [Act.put, List.getElem_toArray, List.getElem_cons_zero, List.getElem_cons_succ, List.setIfInBounds_toArray, List.set_cons_zero, List.set_cons_succ]
  refine wpAnyH_done (by kernel_rfl) ?_ _
  go_wp2
  go_ret
  exact ⟨rfl, HZ.out⟩

set_option linter.unusedSimpArgs false in
set_option maxHeartbeats 12800000 in
set_option maxRecDepth 1000000 in
theorem sb_rows_good (v : Value) (K : Nat) (pW : Nat → Nat) (pN : Nat → Int) (sl : List UInt8) (z : Int) (w : World) (h : PRd w v K pW pN) (hT : TabIn w) (hK : K ≤ 30) (hsl : sl.length ≤ 300) (n0 t : Nat) (u : List UInt8) (hz : max z 0 = (n0 : Int)) (hq : st 0 [] (rdR sl (nby n0 : Nat)) = (u, t, 0)) (hgd : ofB u < 2 ^ n0) :
    Calls Tryd.prog 3 #[v, .string (bs sl), .int .i64 z] w fun e w' => e = .returned (.bool true) ∧ More w w' := by
  have hsz : (bs sl).size = sl.length := bs_size sl
  have hbu := built v K pW pN w h (by omega)
  obtain ⟨ao, cap, rfl⟩ := h.shape
  have hopen := fun w => rd_open sl (by omega) w
  have hput := fun base wb b V n (w' : World) (h1 : WrAt w' base wb []) (h2 : RowRd w' b V n) (h3 : n ≤ 1920) => sb_putRow base wb b V n [] w' h1 h2 (by omega) (by decide)
  simp only [List.nil_append] at hput
  have hg1 := fun base b V n (w' : World) (h0 : V < 2 ^ n) (hn : n ≤ 1920) (h1 : RdAt w' base b (rby V n ++ sl) 0 0) => getRow_row base b 0 0 n (nby n) (n : Int) (rby V n) (rby V n ++ sl) w' h1 (by omega) (by omega) (by rw [List.drop_zero, st_ok]; have := rdR_all (rby V n) sl; rw [rby_len] at this; exact this) (by rw [ofB_rby h0]; exact h0)
  simp only [Nat.zero_add] at hg1
  have HT := Hid.mk hT
  have HS := Hid.mk (show sl.length ≤ 300 from hsl)
  have hn0 : n0 ≤ 2400 := by have := rd_few hq; rw [nby_is] at this; omega
  have hdoc := fun (w' : World) => docRow_row _ _ 0 n0 t z u sl _ (xr_new w' sl (by omega)) hz (by omega) hq hgd
  have hget := fun base b (w' : World) (h1 : RdAt w' base b sl 0 0) => getRow_row base b 0 0 n0 t z u sl w' h1 hz (by omega) (by rw [List.drop_zero]; exact hq) hgd
  obtain ⟨U, hU⟩ : ∃ U, ofB u = U := ⟨_, rfl⟩
  simp only [hU, Nat.zero_add] at hget hdoc
  rw [hU] at hgd
  obtain ⟨M, hM⟩ : ∃ M, sl.length = M := ⟨_, rfl⟩
  obtain ⟨M2, hM2⟩ : ∃ M2, (sl.drop t).length = M2 := ⟨_, rfl⟩
  have hdz : (bs (sl.drop t)).size = M2 := by rw [bs_size, hM2]
  have hM3 : M2 ≤ 300 := by rw [← hM2, List.length_drop]; omega
  rw [hM] at hsz hsl
  have HG := Hid.mk (And.intro hgd hM2)
  clear hq hU hT h hz hgd hM2
  go_enter Tryd.func3, Tryd.ntmps3
  go_wp2_with (first
    | (go_at_call 8; refine hbu.mono ?_; rintro e w1 ⟨b, vo, V, n, rfl, _, hnK, hrow1, hown1, hm1⟩; obtain ⟨av, cv, rfl⟩ := shape_of hown1; have hn1 : n ≤ 1920 := (by omega); have hfit1 := hrow1.fit; have hrl : (rby V n).length = nby n := rby_len V n; have hnb1 : nby n ≤ 240 := (by rw [nby_is]; omega); have hadd1 := (fun w => add_sum (rby V n) sl (by rw [hrl]; have := HS.out; omega) w); have hop1 := (fun w => rd_open (rby V n ++ sl) (by rw [List.length_append, hrl]; have := HS.out; omega) w); have hgg := (fun base b w' h => hg1 base b V n w' hfit1 hn1 h); rw [ofB_rby hfit1] at hgg; have hdl1 : Hid (((rby V n ++ sl).drop (nby n)).length = sl.length) := Hid.mk (by rw [← hrl, List.drop_left]); obtain ⟨L, hL⟩ : ∃ L, rby V n = L := ⟨_, rfl⟩; have hpu := hput w1.heap.size w1.heap.size b V n _ (WrAt.new w1) (hrow1.rd.more (More.alloc _ _)) hn1; have hrr := (fun (w' : World) (hm : More w1 w') => rsb_row (.slice av n cv) n V w' (brd_of_own (More.own hown1 hm)) hfit1 (by omega)); rw [hL] at hadd1 hop1 hdl1 hrl; simp only [hL] at hgg hpu hrr; obtain ⟨Z, hZ⟩ : ∃ Z, L ++ sl = Z := ⟨_, rfl⟩; rw [hZ] at hop1 hdl1; simp only [hZ] at hadd1 hgg; have H1 := Hid.mk (And.intro hrow1 (And.intro hown1 (And.intro hm1 (More.tab HT.out hm1)))); clear hrow1 hown1 hm1 hbu hg1 hput hL hZ hnK hrl hnb1 hfit1)
    | (go_at_call 9; refine hpu.mono ?_; rintro e w2 ⟨rfl, hw2, hk2⟩; have hm2 : More w1 w2 := Below.trans (More.alloc w1 _) hk2.below; have hby2 := wr_bytes _ _ _ w2 hw2; have H2 := Hid.mk (And.intro hw2 (And.intro hm2 (More.tab H1.out.2.2.2 hm2))); clear hw2 hk2 hm2 hpu)
    | (go_at_call 11; refine hby2.mono ?_; rintro e w' ⟨rfl, hw⟩; subst w'; clear hby2)
    | (go_at_call 10; refine (hop1 w2).mono ?_; rintro e w3 ⟨rfl, hr3, hm3⟩; have H3 := Hid.mk (And.intro hr3 (And.intro hm3 (More.tab H2.out.2.2 hm3))); clear hr3 hm3 hop1)
    | (go_at_call 12; refine (hgg w2.heap.size w2.heap.size w3 H3.out.1).mono ?_; rintro e w4 ⟨r4, rfl, hrow4, hr4, hk4⟩; have hm4 : More w2 w4 := Below.trans H3.out.2.1 hk4.below; have hm14 := More.trans H2.out.2.1 hm4; have hby4 := wr_bytes _ _ _ w4 (H2.out.1.more hm4); have hrr4 := hrr w4 hm14; have H4 := Hid.mk (And.intro hrow4 (And.intro hr4 (And.intro hm14 (More.tab H1.out.2.2.2 hm14)))); clear hrow4 hr4 hk4 hm4 hm14 hgg hrr)
    | (go_at_call 11; refine hby4.mono ?_; rintro e w' ⟨rfl, hw⟩; subst w'; clear hby4)
    | (go_at_call 13; refine hrr4.mono ?_; rintro e w5 ⟨rfl, hm5⟩; have hsm := same_rows r4 V n b V n w5 (More.row H4.out.1 hm5).rd (More.row H1.out.1 (More.trans H4.out.2.2.1 hm5)).rd; rw [show decide (n = n ∧ V = V) = true by simp] at hsm; have H5 := Hid.mk (And.intro (H4.out.2.1.more hm5) (And.intro (More.trans H4.out.2.2.1 hm5) (More.tab H4.out.2.2.2 hm5))); clear hm5 hrr4)
    | (go_at_call 14; refine hsm.mono ?_; rintro e w6 ⟨rfl, m6, hw6⟩; have hm6 : More w5 w6 := (by rw [hw6]; exact More.drewN w5 m6); have hle6 := rd_left _ _ _ _ _ w6 (H5.out.1.more hm6); rw [hdl1.out] at hle6; have H6 := Hid.mk (And.intro (H5.out.1.more hm6) (And.intro (More.trans H5.out.2.1 hm6) (More.tab H5.out.2.2 hm6))); clear hw6 hm6 hsm)
    | (go_at_call 15; refine hle6.mono ?_; rintro e w7 ⟨rfl, m7, hw7⟩; have hm7 : More w6 w7 := (by rw [hw7]; exact More.drewN w6 m7); have her7 := rd_err _ _ _ _ _ w7 (H6.out.1.more hm7); rw [Int.natCast_zero] at her7; have hm07 := More.trans H1.out.2.2.1 (More.trans H6.out.2.1 hm7); have H7 := Hid.mk (And.intro hm07 (More.tab HT.out hm07)); have hdoc7 := hdoc w7; clear hw7 hm7 hle6 hm07 hdoc)
    | (go_at_call 16; refine her7.mono ?_; rintro e w' ⟨rfl, hw⟩; subst w'; clear her7)
    | (go_at_call 17; refine hdoc7.mono ?_; rintro e w8 ⟨s8, rfl, hown8, hx8, hk8⟩; obtain ⟨a8, c8, rfl⟩ := shape_of hown8; have hm8 : More w7 w8 := Below.trans (More.alloc w7 _) hk8.below; have H8 := Hid.mk (And.intro hx8 (And.intro hm8 (And.intro (More.tab H7.out.2 hm8) hown8))); clear hx8 hk8 hm8 hdoc7 hown8)
    | (go_at_call 10; refine (hopen w8).mono ?_; rintro e w9 ⟨rfl, hr9, hm9⟩; have hgt9 := hget w8.heap.size w8.heap.size w9 hr9; have H9 := Hid.mk hm9; clear hr9 hm9 hopen hget)
    | (go_at_call 12; refine hgt9.mono ?_; rintro e w10 ⟨r10, rfl, hrow10, hr10, hk10⟩; have hm10 : More w8 w10 := Below.trans H9.out hk10.below; have hx10 := H8.out.1.more hm10; obtain ⟨c0, c1, z0, z1⟩ := wcells2 hx10.mem; have H10 := Hid.mk (And.intro hr10 (And.intro (More.trans H7.out.1 (More.trans H8.out.2.1 hm10)) (And.intro (More.tab H8.out.2.2.1 hm10) (And.intro hx10 (And.intro hrow10 (More.own H8.out.2.2.2 hm10)))))); clear hr10 hk10 hm10 hgt9 hx10 hrow10))
  refine wp_region_any (by kernel_rfl) ?_
  change wpAny _ _ _ _ _ _ _ (World.drew _)
  obtain ⟨w11, hw11⟩ : ∃ w11, World.drew w10 = w11 := ⟨_, rfl⟩
  rw [hw11]
  have hm11 : More w10 w11 := by rw [← hw11]; exact More.drew _
  clear hw11
  have H11 := Hid.mk (And.intro (H10.out.1.more hm11) (And.intro (More.trans H10.out.2.1 hm11) (And.intro (More.tab H10.out.2.2.1 hm11) (And.intro (H10.out.2.2.2.1.more hm11) (And.intro (More.row H10.out.2.2.2.2.1 hm11) (More.own H10.out.2.2.2.2.2 hm11))))))
  obtain ⟨d0, d1, y0, y1⟩ := wcells2 (H11.out.2.2.2.1).mem
  have hS11 : w11.cell? ⟨w7.heap.size, 0, none⟩ = some (.string (bs (sl.drop t))) ∧ w11.cell? ⟨w7.heap.size, 1, none⟩ = some (.int .i64 (0 : Nat)) := ⟨d0, d1⟩
  clear d0 d1 y0 y1
  clear c0 c1 z0 z1 H10 H9 H8 H6 H5 H4 H3 H2 H1 hm11
  have her := rd_err _ _ _ _ _ w11 H11.out.1
  rw [Int.natCast_zero] at her
  have hln := row_len r10 n0 w11 H11.out.2.2.2.2.1.rd.c1
  refine wpAny_of_held (S := fun w' => w'.cell? ⟨w7.heap.size, 0, none⟩ = some (.string (bs (sl.drop t))) ∧ w'.cell? ⟨w7.heap.size, 1, none⟩ = some (.int .i64 (0 : Nat))) _ _ _ _ ?_
  refine wpAnyH_take (i := 0) (v := ?vg0) rfl (by kernel_rfl) (by kernel_rfl) (by kernel_rfl) (fun _ _ _ h => h) (Or.inl ⟨by rfl, ?yg0⟩) (by assumption) ?_
  case yg0 => intro wq hSw; (try dsimp only at hSw); (go_simp) <;> with_reducible rfl
  try simp only [Act.put, List.getElem_toArray, List.getElem_cons_zero, List.getElem_cons_succ, List.setIfInBounds_toArray, List.set_cons_zero, List.set_cons_succ]
  refine wpAnyH_ready (rs := [1]) (by kernel_rfl) (by simp) ?_
  refine AllReadyH.cons rfl (fun K1 hK1 => ?_) AllReadyH.nil
  go_simp
  go_wp2_with (go_at_call 16; refine her.mono ?_; rintro e w' ⟨rfl, hw⟩; subst w'; clear her)
  refine hK1.out _ _ hS11 (fun hHeld => ?_)
  clear hK1 K1 hHeld
  try simp only [Act.put, List.getElem_toArray, List.getElem_cons_zero, List.getElem_cons_succ, List.setIfInBounds_toArray, List.set_cons_zero, List.set_cons_succ]
  refine wpAnyH_take (i := 2) (v := ?vg2) rfl (by kernel_rfl) (by kernel_rfl) (by kernel_rfl) (fun _ _ _ h => h) (Or.inl ⟨by rfl, ?yg2⟩) (by assumption) ?_
  case yg2 => intro wq hSw; (try dsimp only at hSw); (go_simp) <;> with_reducible rfl
  try simp only [Act.put, List.getElem_toArray, List.getElem_cons_zero, List.getElem_cons_succ, List.setIfInBounds_toArray, List.set_cons_zero, List.set_cons_succ]
  refine wpAnyH_take (i := 3) (v := ?vg3) rfl (by kernel_rfl) (by kernel_rfl) (by kernel_rfl) (fun _ _ _ h => h) (Or.inl ⟨by rfl, ?yg3⟩) (by assumption) ?_
  case yg3 => intro wq hSw; (try dsimp only at hSw); (go_simp) <;> with_reducible rfl
  try simp only [Act.put, List.getElem_toArray, List.getElem_cons_zero, List.getElem_cons_succ, List.setIfInBounds_toArray, List.set_cons_zero, List.set_cons_succ]
  refine wpAnyH_take (i := 4) (v := ?vg4) rfl (by kernel_rfl) (by kernel_rfl) (by kernel_rfl) (fun _ _ _ h => h) (Or.inl ⟨by rfl, ?yg4⟩) (by assumption) ?_
  case yg4 => intro wq hSw; (try dsimp only at hSw); (go_simp) <;> with_reducible rfl
  try simp only [Act.put, List.getElem_toArray, List.getElem_cons_zero, List.getElem_cons_succ, List.setIfInBounds_toArray, List.set_cons_zero, List.set_cons_succ]
  refine wpAnyH_take (i := 6) (v := ?vg6) rfl (by kernel_rfl) (by kernel_rfl) (by kernel_rfl) (fun _ _ _ h => h) (Or.inl ⟨by rfl, ?yg6⟩) (by assumption) ?_
  case yg6 => intro wq hSw; (try dsimp only at hSw); (go_simp) <;> with_reducible rfl
  try simp only [Act.put, List.getElem_toArray, List.getElem_cons_zero, List.getElem_cons_succ, List.setIfInBounds_toArray, List.set_cons_zero, List.set_cons_succ]
  refine wpAnyH_take (i := 7) (v := ?vg7) rfl (by kernel_rfl) (by kernel_rfl) (by kernel_rfl) (fun _ _ _ h => h) (Or.inl ⟨by rfl, ?yg7⟩) (by assumption) ?_
  case yg7 => intro wq hSw; (try dsimp only at hSw); (go_simp) <;> with_reducible rfl
  try simp only [Act.put, List.getElem_toArray, List.getElem_cons_zero, List.getElem_cons_succ, List.setIfInBounds_toArray, List.set_cons_zero, List.set_cons_succ]
  refine wpAnyH_ready (rs := [5]) (by kernel_rfl) (by simp) ?_
  refine AllReadyH.cons rfl (fun K5 hK5 => ?_) AllReadyH.nil
  go_simp
  go_wp2_with (go_at_call 18; refine hln.mono ?_; rintro e w' ⟨rfl, hw⟩; subst w'; clear hln)
  refine hK5.out _ _ hS11 (fun hHeld => ?_)
  clear hK5 K5 hHeld
  try simp only [Act.put, List.getElem_toArray, List.getElem_cons_zero, List.getElem_cons_succ, List.setIfInBounds_toArray, List.set_cons_zero, List.set_cons_succ]
  refine wpAnyH_take (i := 8) (v := ?vg8) rfl (by kernel_rfl) (by kernel_rfl) (by kernel_rfl) (fun _ _ _ h => h) (Or.inl ⟨by rfl, ?yg8⟩) (by assumption) ?_
  case yg8 => intro wq hSw; (try dsimp only at hSw); (go_simp) <;> with_reducible rfl
  try simp only [Act.put, List.getElem_toArray, List.getElem_cons_zero, List.getElem_cons_succ, List.setIfInBounds_toArray, List.set_cons_zero, List.set_cons_succ]
  refine wpAnyH_take (i := 9) (v := ?vg9) rfl (by kernel_rfl) (by kernel_rfl) (by kernel_rfl) (fun _ _ _ h => h) (Or.inl ⟨by rfl, ?yg9⟩) (by assumption) ?_
  case yg9 => intro wq hSw; (try dsimp only at hSw); (go_simp) <;> with_reducible rfl
  try simp only [Act.put, List.getElem_toArray, List.getElem_cons_zero, List.getElem_cons_succ, List.setIfInBounds_toArray, List.set_cons_zero, List.set_cons_succ]
  refine wpAnyH_take (i := 10) (v := ?vg10) rfl (by kernel_rfl) (by kernel_rfl) (by kernel_rfl) (fun _ _ _ h => h) (Or.inl ⟨by rfl, ?yg10⟩) (by assumption) ?_
  case yg10 => intro wq hSw; (try dsimp only at hSw); (go_simp) <;> with_reducible rfl
  try simp only [Act.put, List.getElem_toArray, List.getElem_cons_zero, List.getElem_cons_succ, List.setIfInBounds_toArray, List.set_cons_zero, List.set_cons_succ]
  refine wpAnyH_take (i := 11) (v := ?vg11) rfl (by kernel_rfl) (by kernel_rfl) (by kernel_rfl) (fun _ _ _ h => h) (Or.inl ⟨by rfl, ?yg11⟩) (by assumption) ?_
  case yg11 => intro wq hSw; (try dsimp only at hSw); (go_simp) <;> with_reducible rfl
  try simp only [Act.put, List.getElem_toArray, List.getElem_cons_zero, List.getElem_cons_succ, List.setIfInBounds_toArray, List.set_cons_zero, List.set_cons_succ]
  refine wpAnyH_take (i := 13) (v := ?vg13) rfl (by kernel_rfl) (by kernel_rfl) (by kernel_rfl) (fun _ _ _ h => h) (Or.inl ⟨by rfl, ?yg13⟩) (by assumption) ?_
  case yg13 => intro wq hSw; (try dsimp only at hSw); (go_simp) <;> with_reducible rfl
  try simp only [Act.put, List.getElem_toArray, List.getElem_cons_zero, List.getElem_cons_succ, List.setIfInBounds_toArray, List.set_cons_zero, List.set_cons_succ]
  refine wpAnyH_ready (rs := [12]) (by kernel_rfl) (by simp) ?_
  refine AllReadyH.cons rfl (fun K12 hK12 => ?_) AllReadyH.nil
  go_simp
  go_wp2_with (go_at_call 20; refine (row_words _ r10 U n0 w11 H11.out.2.2.2.2.1).mono ?_; rintro e w12 ⟨v12, rfl, ho12, hk12⟩; obtain ⟨a12, c12, rfl⟩ := shape_of ho12; have hm12 : More w11 w12 := hk12.below; have H12 := Hid.mk (And.intro (H11.out.1.more hm12) (And.intro (More.trans H11.out.2.1 hm12) (And.intro (More.tab H11.out.2.2.1 hm12) (And.intro (H11.out.2.2.2.1.more hm12) (And.intro (More.row H11.out.2.2.2.2.1 hm12) (More.own H11.out.2.2.2.2.2 hm12)))))); obtain ⟨d0, d1, y0, y1⟩ := wcells2 (H12.out.2.2.2.1).mem; have hS12 : w12.cell? ⟨w7.heap.size, 0, none⟩ = some (.string (bs (sl.drop t))) ∧ w12.cell? ⟨w7.heap.size, 1, none⟩ = some (.int .i64 (0 : Nat)) := ⟨d0, d1⟩; clear d0 d1 y0 y1; have HO12 := Hid.mk ho12; clear ho12 hk12 hm12)
  refine hK12.out _ _ hS12 (fun hHeld => ?_)
  clear hK12 K12 hHeld
  try simp only [Act.put, List.getElem_toArray, List.getElem_cons_zero, List.getElem_cons_succ, List.setIfInBounds_toArray, List.set_cons_zero, List.set_cons_succ]
  refine wpAnyH_ready (rs := [14]) (by kernel_rfl) (by simp) ?_
  refine AllReadyH.cons rfl (fun K14 hK14 => ?_) AllReadyH.nil
  go_simp
  go_wp2_with (go_at_call 21; refine (ref_words _ n0 U w12 (brd_of_own H12.out.2.2.2.2.2) HG.out.1 (by omega)).mono ?_; rintro e w13 ⟨v13, rfl, ho13, hm13⟩; obtain ⟨a13, c13, rfl⟩ := shape_of ho13; have H13 := Hid.mk (And.intro (H12.out.1.more hm13) (And.intro (More.trans H12.out.2.1 hm13) (And.intro (More.tab H12.out.2.2.1 hm13) (And.intro (H12.out.2.2.2.1.more hm13) (And.intro (More.row H12.out.2.2.2.2.1 hm13) (More.own H12.out.2.2.2.2.2 hm13)))))); obtain ⟨d0, d1, y0, y1⟩ := wcells2 (H13.out.2.2.2.1).mem; have hS13 : w13.cell? ⟨w7.heap.size, 0, none⟩ = some (.string (bs (sl.drop t))) ∧ w13.cell? ⟨w7.heap.size, 1, none⟩ = some (.int .i64 (0 : Nat)) := ⟨d0, d1⟩; clear d0 d1 y0 y1; have HO13 := Hid.mk (And.intro ho13 (More.own HO12.out hm13)); clear ho13 hm13)
  refine hK14.out _ _ hS13 (fun hHeld => ?_)
  clear hK14 K14 hHeld
  try simp only [Act.put, List.getElem_toArray, List.getElem_cons_zero, List.getElem_cons_succ, List.setIfInBounds_toArray, List.set_cons_zero, List.set_cons_succ]
  refine wpAnyH_ready (rs := [15]) (by kernel_rfl) (by simp) ?_
  refine AllReadyH.cons rfl (fun K15 hK15 => ?_) AllReadyH.nil
  go_simp
  go_wp2_with (go_at_call 19; refine (same_as _ _ (nw n0) (wd U) w13 (rd_of_own HO13.out.2) (rd_of_own HO13.out.1) (by unfold nw; omega)).mono ?_; rintro e w14 ⟨rfl, m14, hw14⟩; have hm14 : More w13 w14 := (by rw [hw14]; exact More.drewN w13 m14); have H14 := Hid.mk (And.intro (H13.out.1.more hm14) (And.intro (More.trans H13.out.2.1 hm14) (And.intro (More.tab H13.out.2.2.1 hm14) (And.intro (H13.out.2.2.2.1.more hm14) (And.intro (More.row H13.out.2.2.2.2.1 hm14) (More.own H13.out.2.2.2.2.2 hm14)))))); obtain ⟨d0, d1, y0, y1⟩ := wcells2 (H14.out.2.2.2.1).mem; have hS14 : w14.cell? ⟨w7.heap.size, 0, none⟩ = some (.string (bs (sl.drop t))) ∧ w14.cell? ⟨w7.heap.size, 1, none⟩ = some (.int .i64 (0 : Nat)) := ⟨d0, d1⟩; clear d0 d1 y0 y1; have hle := rd_left _ _ _ _ _ w14 H14.out.1; rw [HG.out.2] at hle; clear hw14 hm14)
  refine hK15.out _ _ hS14 (fun hHeld => ?_)
  clear hK15 K15 hHeld
  try simp only [Act.put, List.getElem_toArray, List.getElem_cons_zero, List.getElem_cons_succ, List.setIfInBounds_toArray, List.set_cons_zero, List.set_cons_succ]
  refine wpAnyH_take (i := 16) (v := ?vg16) rfl (by kernel_rfl) (by kernel_rfl) (by kernel_rfl) (fun _ _ _ h => h) (Or.inl ⟨by rfl, ?yg16⟩) (by assumption) ?_
  case yg16 => intro wq hSw; (try dsimp only at hSw); (go_simp) <;> with_reducible rfl
  try simp only [Act.put, List.getElem_toArray, List.getElem_cons_zero, List.getElem_cons_succ, List.setIfInBounds_toArray, List.set_cons_zero, List.set_cons_succ]
  refine wpAnyH_take (i := 17) (v := ?vg17) rfl (by kernel_rfl) (by kernel_rfl) (by kernel_rfl) (fun _ _ _ h => h) (Or.inl ⟨by rfl, ?yg17⟩) (by assumption) ?_
  case yg17 => intro wq hSw; (try dsimp only at hSw); (go_simp) <;> with_reducible rfl
  try simp only [Act.put, List.getElem_toArray, List.getElem_cons_zero, List.getElem_cons_succ, List.setIfInBounds_toArray, List.set_cons_zero, List.set_cons_succ]
  refine wpAnyH_take (i := 18) (v := ?vg18) rfl (by kernel_rfl) (by kernel_rfl) (by kernel_rfl) (fun _ _ _ h => h) (Or.inl ⟨by rfl, ?yg18⟩) (by assumption) ?_
  case yg18 => intro wq hSw; (try dsimp only at hSw); (go_simp) <;> with_reducible rfl
  try simp only [Act.put, List.getElem_toArray, List.getElem_cons_zero, List.getElem_cons_succ, List.setIfInBounds_toArray, List.set_cons_zero, List.set_cons_succ]
  refine wpAnyH_take (i := 20) (v := ?vg20) rfl (by kernel_rfl) (by kernel_rfl) (by kernel_rfl) (fun _ _ _ h => h) (Or.inl ⟨by rfl, ?yg20⟩) (by assumption) ?_
  case yg20 => intro wq hSw; (try dsimp only at hSw); (go_simp) <;> with_reducible rfl
  try simp only [Act.put, List.getElem_toArray, List.getElem_cons_zero, List.getElem_cons_succ, List.setIfInBounds_toArray, List.set_cons_zero, List.set_cons_succ]
  refine wpAnyH_take (i := 21) (v := ?vg21) rfl (by kernel_rfl) (by kernel_rfl) (by kernel_rfl) (fun _ _ _ h => h) (Or.inl ⟨by rfl, ?yg21⟩) (by assumption) ?_
  case yg21 => intro wq hSw; (try dsimp only at hSw); (go_simp) <;> with_reducible rfl
  try simp only [Act.put, List.getElem_toArray, List.getElem_cons_zero, List.getElem_cons_succ, List.setIfInBounds_toArray, List.set_cons_zero, List.set_cons_succ]
  refine wpAnyH_take (i := 22) (v := ?vg22) rfl (by kernel_rfl) (by kernel_rfl) (by kernel_rfl) (fun _ _ _ h => h) (Or.inl ⟨by rfl, ?yg22⟩) (by assumption) ?_
  case yg22 => intro wq hSw; (try dsimp only at hSw); (go_simp) <;> with_reducible rfl
  try simp only [Act.put, List.getElem_toArray, List.getElem_cons_zero, List.getElem_cons_succ, List.setIfInBounds_toArray, List.set_cons_zero, List.set_cons_succ]
  refine wpAnyH_take (i := 23) (v := ?vg23) rfl (by kernel_rfl) (by kernel_rfl) (by kernel_rfl) (fun _ _ _ h => h) (Or.inl ⟨by rfl, ?yg23⟩) (by assumption) ?_
  case yg23 => intro wq hSw; (try dsimp only at hSw); (go_simp) <;> with_reducible rfl
  try simp only [Act.put, List.getElem_toArray, List.getElem_cons_zero, List.getElem_cons_succ, List.setIfInBounds_toArray, List.set_cons_zero, List.set_cons_succ]
  refine wpAnyH_take (i := 24) (v := ?vg24) rfl (by kernel_rfl) (by kernel_rfl) (by kernel_rfl) (fun _ _ _ h => h) (Or.inl ⟨by rfl, ?yg24⟩) (by assumption) ?_
  case yg24 => intro wq hSw; (try dsimp only at hSw); (go_simp) <;> with_reducible rfl
  try simp only [Act.put, List.getElem_toArray, List.getElem_cons_zero, List.getElem_cons_succ, List.setIfInBounds_toArray, List.set_cons_zero, List.set_cons_succ]
  refine wpAnyH_ready (rs := [19]) (by kernel_rfl) (by simp) ?_
  refine AllReadyH.cons rfl (fun K19 hK19 => ?_) AllReadyH.nil
  go_simp
  go_wp2_with (go_at_call 15; refine hle.mono ?_; rintro e w15 ⟨rfl, m15, hw15⟩; have hm15 : More w14 w15 := (by rw [hw15]; exact More.drewN w14 m15); have H15 := Hid.mk (And.intro (H14.out.1.more hm15) (And.intro (More.trans H14.out.2.1 hm15) (And.intro (More.tab H14.out.2.2.1 hm15) (And.intro (H14.out.2.2.2.1.more hm15) (And.intro (More.row H14.out.2.2.2.2.1 hm15) (More.own H14.out.2.2.2.2.2 hm15)))))); obtain ⟨d0, d1, y0, y1⟩ := wcells2 (H15.out.2.2.2.1).mem; have hS15 : w15.cell? ⟨w7.heap.size, 0, none⟩ = some (.string (bs (sl.drop t))) ∧ w15.cell? ⟨w7.heap.size, 1, none⟩ = some (.int .i64 (0 : Nat)) := ⟨d0, d1⟩; clear d0 d1 y0 y1; have hlv := sb_live w15 H15.out.2.2.1; clear hw15 hm15 hle)
  refine hK19.out _ _ hS15 (fun hHeld => ?_)
  clear hK19 K19 hHeld
  try simp only [Act.put, List.getElem_toArray, List.getElem_cons_zero, List.getElem_cons_succ, List.setIfInBounds_toArray, List.set_cons_zero, List.set_cons_succ]
  refine wpAnyH_take (i := 25) (v := ?vg25) rfl (by kernel_rfl) (by kernel_rfl) (by kernel_rfl) (fun _ _ _ h => h) (Or.inl ⟨by rfl, ?yg25⟩) (by assumption) ?_
  case yg25 => intro wq hSw; (try dsimp only at hSw); (go_simp) <;> with_reducible rfl
  try simp only [Act.put, List.getElem_toArray, List.getElem_cons_zero, List.getElem_cons_succ, List.setIfInBounds_toArray, List.set_cons_zero, List.set_cons_succ]
  refine wpAnyH_take (i := 26) (v := ?vg26) rfl (by kernel_rfl) (by kernel_rfl) (by kernel_rfl) (fun _ _ _ h => h) (Or.inl ⟨by rfl, ?yg26⟩) (by assumption) ?_
  case yg26 => intro wq hSw; (try dsimp only at hSw); (go_simp) <;> with_reducible rfl
  try simp only [Act.put, List.getElem_toArray, List.getElem_cons_zero, List.getElem_cons_succ, List.setIfInBounds_toArray, List.set_cons_zero, List.set_cons_succ]
  refine wpAnyH_take (i := 27) (v := ?vg27) rfl (by kernel_rfl) (by kernel_rfl) (by kernel_rfl) (fun _ _ _ h => h) (Or.inl ⟨by rfl, ?yg27⟩) (by assumption) ?_
  case yg27 => intro wq hSw; (try dsimp only at hSw); (go_simp) <;> with_reducible rfl
  try simp only [Act.put, List.getElem_toArray, List.getElem_cons_zero, List.getElem_cons_succ, List.setIfInBounds_toArray, List.set_cons_zero, List.set_cons_succ]
  refine wpAnyH_ready (rs := [28]) (by kernel_rfl) (by simp) ?_
  refine AllReadyH.cons rfl (fun K28 hK28 => ?_) AllReadyH.nil
  go_simp
  go_wp2_with (go_at_call 7; refine hlv.mono ?_; rintro e w16 ⟨rfl, hm16⟩; have H16 := Hid.mk (And.intro (H15.out.1.more hm16) (And.intro (More.trans H15.out.2.1 hm16) (And.intro (More.tab H15.out.2.2.1 hm16) (And.intro (H15.out.2.2.2.1.more hm16) (And.intro (More.row H15.out.2.2.2.2.1 hm16) (More.own H15.out.2.2.2.2.2 hm16)))))); obtain ⟨d0, d1, y0, y1⟩ := wcells2 (H16.out.2.2.2.1).mem; have hS16 : w16.cell? ⟨w7.heap.size, 0, none⟩ = some (.string (bs (sl.drop t))) ∧ w16.cell? ⟨w7.heap.size, 1, none⟩ = some (.int .i64 (0 : Nat)) := ⟨d0, d1⟩; clear d0 d1 y0 y1; clear hm16 hlv)
  refine hK28.out _ _ hS16 (fun hHeld => ?_)
  clear hK28 K28 hHeld
  try simp only [Act.put, List.getElem_toArray, List.getElem_cons_zero, List.getElem_cons_succ, List.setIfInBounds_toArray, List.set_cons_zero, List.set_cons_succ]
  refine wpAnyH_take (i := 29) (v := ?vg29) rfl (by kernel_rfl) (by kernel_rfl) (by kernel_rfl) (fun _ _ _ h => h) (Or.inl ⟨by rfl, ?yg29⟩) (by assumption) ?_
  case yg29 => intro wq hSw; (try dsimp only at hSw); (go_simp) <;> with_reducible rfl
  try simp only [Act.put, List.getElem_toArray, List.getElem_cons_zero, List.getElem_cons_succ, List.setIfInBounds_toArray, List.set_cons_zero, List.set_cons_succ]
  refine wpAnyH_take (i := 30) (v := ?vg30) rfl (by kernel_rfl) (by kernel_rfl) (by kernel_rfl) (fun _ _ _ h => h) (Or.inl ⟨by rfl, ?yg30⟩) (by assumption) ?_
  case yg30 => intro wq hSw; (try dsimp only at hSw); (go_simp) <;> with_reducible rfl
  try simp only [Act.put, List.getElem_toArray, List.getElem_cons_zero, List.getElem_cons_succ, List.setIfInBounds_toArray, List.set_cons_zero, List.set_cons_succ]
  refine wpAnyH_done (by kernel_rfl) ?_ _
  go_wp2
  go_ret
  exact ⟨rfl, H16.out.2.1⟩

set_option maxRecDepth 1000000 in
theorem seqbinRows (v : Value) (K : Nat) (pW : Nat → Nat) (pN : Nat → Int) (sl : List UInt8) (z : Int) (w : World) (h : PRd w v K pW pN) (hz0 : -9223372036854775808 ≤ z) (hz1 : z ≤ 9223372036854775807) (hT : TabIn w) :
    Calls Tryd.prog 3 #[v, .string (bs sl), .int .i64 z] w fun e w' => e = .returned (.bool true) ∧ More w w' := by
  by_cases hK : K ≤ 30
  · by_cases hs : sl.length ≤ 300
    · obtain ⟨n0, hz⟩ : ∃ n0 : Nat, max z 0 = (n0 : Int) := ⟨(max z 0).toNat, by omega⟩
      obtain ⟨⟨u, t, er⟩, hq⟩ : ∃ q, st 0 [] (rdR sl (nby n0 : Nat)) = q := ⟨_, rfl⟩
      by_cases hg : er = 0 ∧ ofB u < 2 ^ n0
      · obtain ⟨rfl, hg⟩ := hg
        exact sb_rows_good v K pW pN sl z w h hT hK hs n0 t u hz hq hg
      · exact sb_rows_bad v K pW pN sl z w h hz1 hT hK hs n0 t er u hz hq hg
    · have hsz : (bs sl).size = sl.length := bs_size sl
      have hl := sb_live w hT
      obtain ⟨ao, cap, rfl⟩ := h.shape
      generalize sl.length = M at *
      clear h hT
      go_enter Tryd.func3, Tryd.ntmps3
      go_wp2_with (go_at_call 7; refine hl.mono ?_; rintro e wz ⟨rfl, hmz⟩; have HZ := Hid.mk hmz; clear hmz)
      go_ret
      exact ⟨rfl, HZ.out⟩
  · have hl := sb_live w hT
    obtain ⟨ao, cap, rfl⟩ := h.shape
    clear h hT
    go_enter Tryd.func3, Tryd.ntmps3
    go_wp2_with (go_at_call 7; refine hl.mono ?_; rintro e wz ⟨rfl, hmz⟩; have HZ := Hid.mk hmz; clear hmz)
    go_ret
    exact ⟨rfl, HZ.out⟩

end Go.Proofs.YtbfolfacppbalaaDoor
