/-
  VocabAdds, walked.
-/
import Derived.Test.YtbpegpgbdemomaaVoLawA
import Derived.Test.YtbpegpgbdemomaaVoN
namespace Go.Proofs.Ytbpegpgbdemomaa
open Go.RowKit

/-- The words that the first k of a list come to. -/
def upR (ls : List (List UInt8)) (k : Nat) : List (List UInt8) := putAll mk3 ((ls.take k).filter rightW)
theorem upR_zero (ls : List (List UInt8)) : upR ls 0 = mk3 := rfl
theorem upR_bad (ls : List (List UInt8)) {k : Nat} (h : k < ls.length) (hr : rightW (ls.getD k []) = false) : upR ls (k + 1) = upR ls k := by
  unfold upR
  rw [take_next h, List.filter_append]
  simp only [List.filter_cons, List.filter_nil, hr]
  simp
theorem upR_good (ls : List (List UInt8)) {k : Nat} (h : k < ls.length) (hr : rightW (ls.getD k []) = true) : upR ls (k + 1) = putN (upR ls k) (ls.getD k []) := by
  unfold upR
  rw [take_next h, List.filter_append]
  simp only [List.filter_cons, List.filter_nil, hr, if_true]
  rw [putAll_snoc]
theorem upR_len (ls : List (List UInt8)) (k : Nat) : (upR ls k).length ≤ k + 3 := by
  have h1 := putAll_len ((ls.take k).filter rightW) mk3
  have h2 := List.length_filter_le rightW (ls.take k)
  have h3 := List.length_take_le k ls
  unfold upR
  simp only [mk3, List.length_cons, List.length_nil] at h1
  simp only [mk3]
  omega

theorem ARd.opened {w : World} {v : Value} {ts : List (List UInt8)} (h : ARd w v ts) : ∃ ao cap, v = .slice ao ts.length cap ∧ ∀ k, k < ts.length → ∃ g o, ao = some ⟨g, o, none⟩ ∧ g < w.heap.size ∧ w.cell? ⟨g, o + k, none⟩ = some (.string (bs (ts.getD k []))) := by
  rcases h with ⟨h1, ao, cap, h2⟩ | ⟨g, o, cap, h1, h2⟩
  · subst h1
    exact ⟨ao, cap, h2, fun k hk => by simp at hk⟩
  · exact ⟨_, _, h1, fun k hk => ⟨g, o, rfl, World.block_lt_of_cell? _ _ (h2 k hk), h2 k hk⟩⟩
theorem Off.srd {w w' : World} {D : Nat → Prop} {v : Value} {ts : List (List UInt8)} (h : Off D w w') (hv : SRd w v ts) (hn : ∀ j, v.ownBlock = some j → ¬ D j) : SRd w' v ts := by
  obtain ⟨B, hB⟩ := hv
  exact ⟨B, h.own hB hn⟩
theorem SRd.blk {w : World} {v : Value} {ts : List (List UInt8)} (hv : SRd w v ts) : ∀ j, v.ownBlock = some j → j < w.heap.size := by
  obtain ⟨B, hB⟩ := hv
  exact fun j hj => (hB.lt j hj).2
/-- The vocabulary and the document's list of the same words, neither in the other's blocks. -/
structure TwV (w : World) (v : Nat) (wv : Value) (ts : List (List UInt8)) (D : Nat → Prop) (wr : World) : Prop where
  voc : Voc wr D v ts
  row : SRd wr wv ts
  off : ∀ j, wv.ownBlock = some j → ¬ D j
  more : More w wr
  new : ∀ j, D j → w.heap.size ≤ j
theorem TwV.later {w wr w' : World} {v : Nat} {wv : Value} {ts : List (List UInt8)} {D : Nat → Prop} (h : TwV w v wv ts D wr) (k : More wr w') : TwV w v wv ts D w' :=
  ⟨h.voc.more k, h.row.more k, h.off, More.trans h.more k, h.new⟩
theorem Voc.wi {w : World} {D : Nat → Prop} {v : Nat} {ts : List (List UInt8)} (h : Voc w D v ts) : ∀ j, D j → j < w.heap.size := by
  obtain ⟨_, b, _, hT⟩ := h
  exact hT.wi
/-- One word more for the vocabulary. -/
theorem TwV.add {w wr w1 : World} {v : Nat} {wv : Value} {ts ts' : List (List UInt8)} {D D1 : Nat → Prop} (h : TwV w v wv ts D wr) (hV : Voc w1 D1 v ts') (hO : Off D wr w1) (hD : ∀ j, D1 j → D j ∨ wr.heap.size ≤ j) :
    SRd w1 wv ts ∧ (∀ j, wv.ownBlock = some j → ¬ D1 j) ∧ More w w1 ∧ (∀ j, D1 j → w.heap.size ≤ j) ∧ Voc w1 D1 v ts' :=
  ⟨hO.srd h.row h.off, fun j hj hd => by
    have hb := h.row.blk j hj
    rcases hD j hd with h1 | h1
    · exact h.off j hj h1
    · omega, More.trans' h.more hO h.new, fun j hj => (hD j hj).elim (h.new j) (Nat.le_trans h.more.size), hV⟩
theorem TwV.put {w w1 w4 w5 : World} {v : Nat} {wv v5 : Value} {ts ts' : List (List UInt8)} {D1 : Nat → Prop} (h : SRd w1 wv ts ∧ (∀ j, wv.ownBlock = some j → ¬ D1 j) ∧ More w w1 ∧ (∀ j, D1 j → w.heap.size ≤ j) ∧ Voc w1 D1 v ts') (h4 : More w1 w4)
    (hS : SRd w5 v5 ts') (h5 : More w4 w5) (hb : ∀ j, v5.ownBlock = some j → wv.ownBlock = some j ∨ w4.heap.size ≤ j) : TwV w v v5 ts' D1 w5 :=
  ⟨h.2.2.2.2.more (More.trans h4 h5), hS, fun j hj hd => by
    have h1 := h.2.2.2.2.wi j hd
    have h2 := h4.size
    rcases hb j hj with h3 | h3
    · exact h.2.1 j h3 hd
    · omega, More.trans h.2.2.1 (More.trans h4 h5), h.2.2.2.1⟩

set_option maxHeartbeats 1600000 in
set_option maxRecDepth 1000000 in
theorem adds_big (a : Value) (ls : List (List UInt8)) (id : Int) (w : World) (ha : ARd w a ls) (hb : 60 < ls.length) :
    Calls Try.prog 5 #[a, .int .i64 id] w fun e W' => e = .returned (.bool true) ∧ More w W' := by
  obtain ⟨ao, cap, rfl⟩ := ha.shape
  have hb' : (60 : Int) < (ls.length : Int) := by omega
  clear ha
  generalize ls.length = n at *
  go_enter Try.func5, Try.ntmps5
  go_wp2_with (go_at_call 7; refine (live_true _).mono ?_; rintro e w5 ⟨rfl, hm⟩; have H5 := Hid.mk hm; clear hm)
  go_ret
  exact ⟨rfl, H5.out⟩

set_option maxHeartbeats 8000000 in
set_option maxRecDepth 1000000 in
theorem adds_small (a : Value) (ls : List (List UInt8)) (id : Int) (w : World) (ha : ARd w a ls) (hb : ls.length ≤ 60) (hl : ∀ x ∈ ls, x.length ≤ 281474976710656) :
    Calls Try.prog 5 #[a, .int .i64 id] w fun e W' => e = .returned (.bool true) ∧ More w W' := by
  obtain ⟨ao, cap, rfl, hc⟩ := ha.opened
  obtain ⟨n, hn⟩ : ∃ n, ls.length = n := ⟨_, rfl⟩
  have HC := Hid.mk (And.intro hc (And.intro hl hn))
  rw [hn] at hb ⊢
  have hb' : ¬ (60 : Int) < (n : Int) := by omega
  clear hc ha hn hl
  go_enter Try.func5, Try.ntmps5
  go_wp2_with (first
    | (go_at_call 21; refine (vo_New _).mono ?_; rintro e w1 ⟨v, D, rfl, hV, hM, hD, hv⟩; have H1 := Hid.mk (And.intro hV (And.intro hM hD)); clear hV hM hD hv)
    | (go_at_call 22; refine (rf_marks _).mono ?_; rintro e w2 ⟨u, rfl, hG⟩; have H2 := Hid.mk (show TwV w v u mk3 D w2 from ⟨H1.out.1.more hG.more, hG.rd, (fun j hj hd => by have h1 := (hG.row.lt j hj).1; have h2 := H1.out.1.wi j hd; omega), More.trans H1.out.2.1 hG.more, H1.out.2.2⟩); clear hG))
  go_loopw [6, 8] (fun wv i wr => ∃ (k : Nat) (D : Nat → Prop), k ≤ n ∧ i = .int .i64 k ∧ TwV w v wv (upR ls k) D wr) (fun _ i _ => n - (intOf i).toNat)
  case atStart => exact ⟨0, D, Nat.zero_le _, rfl, by rw [upR_zero]; exact H2.out⟩
  case round =>
    obtain ⟨k, D, hk, rfl, h2⟩ := hrel
    have htl := upR_len ls k
    clear H1 H2
    by_cases hlt : k < n
    · obtain ⟨g, o, rfl, hg, hcell⟩ := HC.out.1 k (by rw [HC.out.2.2]; exact hlt)
      have hxl := HC.out.2.1 (ls.getD k []) (getD_mem (by rw [HC.out.2.2]; exact hlt))
      have hbd := upR_bad ls (k := k) (by rw [HC.out.2.2]; exact hlt)
      have hgd := upR_good ls (k := k) (by rw [HC.out.2.2]; exact hlt)
      obtain ⟨x, hx⟩ : ∃ x, ls.getD k [] = x := ⟨_, rfl⟩
      obtain ⟨ts, hts⟩ : ∃ ts, upR ls k = ts := ⟨_, rfl⟩
      rw [hx] at hcell hxl hbd hgd
      rw [hts] at h2 hbd hgd htl
      have cA : ∀ W, More w W → W.cell? ⟨g, o + k, none⟩ = some (.string (bs x)) := fun W hW => (hW.cell hg).trans hcell
      have c1 := cA wr h2.more
      have hrt := fun w => rf_right x (by omega) w
      have HT := Hid.mk hts
      clear hx hts hcell
      cases hR : rightW x with
      | false =>
        rw [hR] at hrt hbd
        have had := vo_Add_bad v wr D ts x h2.voc hR hxl
        have H2 := Hid.mk (And.intro h2 (And.intro (hbd rfl) cA))
        have T1 := Hid.mk True.intro
        clear h2 hbd hgd hR cA
        go_wp2_with (first
          | (have TT := T1; clear TT T1; go_at_call 23; refine had.mono ?_; rintro e w3 ⟨rfl, hM⟩; have c3 := H2.out.2.2 w3 (More.trans H2.out.1.more hM); have H3 := Hid.mk hM; clear hM had)
          | (go_at_call 23; refine (von_Add _ _).mono ?_; rintro e w4 ⟨rfl, hM⟩; have hM4 := More.trans H3.out hM; have c4 := H2.out.2.2 w4 (More.trans H2.out.1.more hM4); have H4 := Hid.mk hM4; clear hM hM4)
          | (go_at_call 15; refine (von_ID _ _).mono ?_; rintro e w5 ⟨rfl, hM⟩; have hM5 := More.trans H4.out hM; have c5 := H2.out.2.2 w5 (More.trans H2.out.1.more hM5); have H5 := Hid.mk hM5; clear hM hM5)
          | (go_at_call 17; refine (von_Has _ _).mono ?_; rintro e w6 ⟨rfl, hM⟩; have hM6 := More.trans H5.out hM; have c6 := H2.out.2.2 w6 (More.trans H2.out.1.more hM6); have H6 := Hid.mk hM6; clear hM hM6)
          | (go_at_call 11; refine (hrt _).mono ?_; rintro e w' ⟨rfl, hw'⟩; subst w'))
        go_roundw
        case rel => exact ⟨k + 1, D, by omega, by go_num, by rw [H2.out.2.1]; exact H2.out.1.later H6.out⟩
        case measure => simp [intOf]; omega
      | true =>
        rw [hR] at hrt hgd
        have had := vo_Add v wr D ts x h2.voc (by omega) hR hxl
        have hpl := (putN_len ts x).1
        have H2 := Hid.mk (And.intro h2 (And.intro (hgd rfl) cA))
        obtain ⟨F, hF⟩ : ∃ F, fnd (putN ts x) x = F := ⟨_, rfl⟩
        rw [hF] at had
        have HF := Hid.mk hF
        have T1 := Hid.mk True.intro
        clear h2 hbd hgd hR cA hF
        go_wp2_with (first
          | (have TT := T1; clear TT T1; go_at_call 23; refine had.mono ?_; rintro e w3 ⟨rfl, D3, hV, hO, hD⟩; have hq := H2.out.1.add hV hO hD; have c3 := H2.out.2.2 w3 hq.2.2.1; have H3 := Hid.mk hq; clear hV hO hD hq had)
          | (go_at_call 23; refine (von_Add _ _).mono ?_; rintro e w4 ⟨rfl, hM4⟩; have c4 := H2.out.2.2 w4 (More.trans H3.out.2.2.1 hM4); have H4 := Hid.mk hM4; clear hM4)
          | (go_at_call 15; refine (von_ID _ _).mono ?_; rintro e w5 ⟨rfl, hM⟩; have hM5 := More.trans H4.out hM; have c5 := H2.out.2.2 w5 (More.trans H3.out.2.2.1 hM5); have H5 := Hid.mk hM5; clear hM hM5)
          | (go_at_call 17; refine (von_Has _ _).mono ?_; rintro e w6 ⟨rfl, hM⟩; have hM6 := More.trans H5.out hM; have c6 := H2.out.2.2 w6 (More.trans H3.out.2.2.1 hM6); have H6 := Hid.mk hM6; have hpu := rf_put _ ts x w6 (H3.out.1.more hM6) (by omega); clear hM hM6)
          | (go_at_call 11; refine (hrt _).mono ?_; rintro e w' ⟨rfl, hw'⟩; subst w')
          | (go_at_call 24; refine hpu.mono ?_; rintro e w7 ⟨v7, rfl, hS, hM, hb7⟩; have hq := TwV.put H3.out H6.out hS hM hb7; have c7 := H2.out.2.2 w7 hq.more; have hfd := rf_find _ (putN ts x) x w7 hS.ard (by omega); rw [HF.out] at hfd; have H7 := Hid.mk hq; clear hS hM hb7 hq hpu)
          | (go_at_call 18; refine hfd.mono ?_; rintro e w' ⟨rfl, hw'⟩; subst w'))
        go_roundw
        case rel => exact ⟨k + 1, D3, by omega, by go_num, by rw [H2.out.2.1]; exact H7.out⟩
        case measure => simp [intOf]; omega
    · obtain rfl : k = n := by omega
      obtain ⟨ts, hts⟩ : ∃ ts, upR ls k = ts := ⟨_, rfl⟩
      rw [hts] at h2 htl
      have htb : ts.length ≤ 1000 := by omega
      have hwd := fun (W : World) (h : More wr W) => vo_Word v W D ts id (h2.voc.more h)
      have hvw := fun (W : World) (h : More wr W) => vo_Words v W D ts (h2.voc.more h) (by omega)
      have hsm := fun (u : Value) (W : World) (h : More wr W) (hu : SRd W u ts) => rf_same u _ ts ts W hu.ard (h2.row.more h).ard (by omega) (by omega)
      rw [decide_eq_true rfl] at hsm
      have hsh := h2.row.shape
      have hdn := h2.row.down
      obtain ⟨aw, cw, rfl⟩ := hsh
      have H2 := Hid.mk h2.more
      have hwi := fun (h : 0 ≤ id ∧ id < ts.length) => (show wdI ts id = ts.getD id.toNat [] from if_pos h)
      have hwn := fun (h : ¬ (0 ≤ id ∧ id < ts.length)) => (show wdI ts id = [] from if_neg h)
      obtain ⟨M, hM⟩ : ∃ M, ts.length = M := ⟨_, rfl⟩
      rw [hM] at hsm hdn hwi hwn htb ⊢
      clear h2 hts hM htl HC
      by_cases hin : 0 ≤ id ∧ id < M
      · obtain ⟨q, rfl⟩ := Int.eq_ofNat_of_zero_le hin.1
        have hq : q < M := by omega
        obtain ⟨g, cp, he, hc⟩ := hdn (by omega)
        obtain ⟨rfl, _, rfl⟩ := Value.slice.inj he
        have hy := hwi hin
        rw [hy] at hwd
        simp only [Int.toNat_natCast] at hwd
        have c0 := hc q hq
        obtain ⟨y, hye⟩ : ∃ y, ts.getD q [] = y := ⟨_, rfl⟩
        rw [hye] at hwd c0
        have cA : ∀ W, More wr W → W.cell? ⟨g, q, none⟩ = some (.string (bs y)) := fun W h => (h.cell (World.block_lt_of_cell? _ _ c0)).trans c0
        have HA := Hid.mk (And.intro cA (And.intro hwd (And.intro hvw hsm)))
        have h1 : (0 : Int) ≤ (q : Int) := by omega
        have h2 : (q : Int) < (M : Int) := by omega
        have hyy : ((bs y).toList == (bs y).toList) = true := by simp
        clear hdn hc he hwi hwn hin hye hy cA hwd hvw hsm
        go_wp2_with fail
        go_region_with (first
          | (go_at_call 25; refine (HA.out.2.1 _ ?_).mono ?_; · exact More.drewN wr 1
             rintro e w2 ⟨rfl, hM⟩; have hM2 := More.trans (More.drewN wr 1) hM; have cW := HA.out.1 w2 hM2; have H3 := Hid.mk hM2; clear hM hM2)
          | (go_at_call 13; refine (HA.out.2.2.1 _ H3.out).mono ?_; rintro e w3 ⟨u, rfl, hG⟩; have H4 := Hid.mk (And.intro hG.rd (More.trans H3.out hG.more)); clear hG)
          | (go_at_call 12; refine (HA.out.2.2.2 _ _ H4.out.2 H4.out.1).mono ?_; rintro e w4 ⟨rfl, m, hw4⟩; have H5 := Hid.mk (show More wr w4 by rw [hw4]; exact More.trans H4.out.2 (More.drewN _ _)); clear hw4)
          | (go_at_call 7; refine (live_true _).mono ?_; rintro e w5 ⟨rfl, hM⟩; have H6 := Hid.mk (More.trans H5.out hM); clear hM))
        all_goals
          go_wp2
          go_ret
          exact ⟨rfl, More.trans H2.out H6.out⟩
      · rw [hwn hin] at hwd
        have e0 : (bs ([] : List UInt8)).toList.isEmpty = true := by rw [bs_list]; rfl
        have e1 : ((bs ([] : List UInt8)).toList == []) = true := by rw [bs_list]; rfl
        have e2 : (bs ([] : List UInt8)).toList = [] := bs_list []
        have T1 := Hid.mk True.intro
        have T2 := Hid.mk True.intro
        clear hdn hwi hwn
        by_cases h0 : 0 ≤ id
        · have h1 : ¬ id < (M : Int) := fun h => hin ⟨h0, h⟩
          clear hin
          go_wp2_with (first
            | (have TT := T1; go_at_call 25; clear TT T1; refine (hwd _ (More.refl wr)).mono ?_; rintro e w2 ⟨rfl, hM⟩; have H3 := Hid.mk hM; clear hM hwd)
            | (go_at_call 25; refine (von_Word _ _).mono ?_; rintro e w3 ⟨rfl, hM⟩; have H4 := Hid.mk (More.trans H3.out hM); clear hM)
            | (go_at_call 14; refine (von_Len _).mono ?_; rintro e w4 ⟨rfl, hM⟩; have H5 := Hid.mk (More.trans H4.out hM); clear hM)
            | (have TT := T2; go_at_call 13; clear TT T2; refine (von_Words _).mono ?_; rintro e w5 ⟨u5, rfl, hG⟩; obtain ⟨an, cn, rfl⟩ : ∃ ao cap, u5 = .slice ao 0 cap := hG.shape; have H6 := Hid.mk (More.trans H5.out hG.more); clear hG)
            | (go_at_call 13; refine (hvw _ H6.out).mono ?_; rintro e w6 ⟨u6, rfl, hG⟩; have H7 := Hid.mk (And.intro hG.rd (More.trans H6.out hG.more)); clear hG hvw)
            | (go_at_call 12; refine (hsm _ _ H7.out.2 H7.out.1).mono ?_; rintro e w7 ⟨rfl, m, hw7⟩; have H8 := Hid.mk (show More wr w7 by rw [hw7]; exact More.trans H7.out.2 (More.drewN _ _)); clear hw7 hsm)
            | (go_at_call 7; refine (live_true _).mono ?_; rintro e w8 ⟨rfl, hM⟩; have H9 := Hid.mk (More.trans H8.out hM); clear hM))
          go_ret
          exact ⟨rfl, More.trans H2.out H9.out⟩
        · clear hin
          go_wp2_with (first
            | (have TT := T1; go_at_call 25; clear TT T1; refine (hwd _ (More.refl wr)).mono ?_; rintro e w2 ⟨rfl, hM⟩; have H3 := Hid.mk hM; clear hM hwd)
            | (go_at_call 25; refine (von_Word _ _).mono ?_; rintro e w3 ⟨rfl, hM⟩; have H4 := Hid.mk (More.trans H3.out hM); clear hM)
            | (go_at_call 14; refine (von_Len _).mono ?_; rintro e w4 ⟨rfl, hM⟩; have H5 := Hid.mk (More.trans H4.out hM); clear hM)
            | (have TT := T2; go_at_call 13; clear TT T2; refine (von_Words _).mono ?_; rintro e w5 ⟨u5, rfl, hG⟩; obtain ⟨an, cn, rfl⟩ : ∃ ao cap, u5 = .slice ao 0 cap := hG.shape; have H6 := Hid.mk (More.trans H5.out hG.more); clear hG)
            | (go_at_call 13; refine (hvw _ H6.out).mono ?_; rintro e w6 ⟨u6, rfl, hG⟩; have H7 := Hid.mk (And.intro hG.rd (More.trans H6.out hG.more)); clear hG hvw)
            | (go_at_call 12; refine (hsm _ _ H7.out.2 H7.out.1).mono ?_; rintro e w7 ⟨rfl, m, hw7⟩; have H8 := Hid.mk (show More wr w7 by rw [hw7]; exact More.trans H7.out.2 (More.drewN _ _)); clear hw7 hsm)
            | (go_at_call 7; refine (live_true _).mono ?_; rintro e w8 ⟨rfl, hM⟩; have H9 := Hid.mk (More.trans H8.out hM); clear hM))
          go_ret
          exact ⟨rfl, More.trans H2.out H9.out⟩

theorem vocabAdds (a : Value) (ls : List (List UInt8)) (id : Int) (w : World) (ha : ARd w a ls) (hl : ∀ x ∈ ls, x.length ≤ 281474976710656) :
    Calls Try.prog 5 #[a, .int .i64 id] w fun e W' => e = .returned (.bool true) ∧ More w W' := by
  by_cases hb : 60 < ls.length
  · exact adds_big a ls id w ha hb
  · exact adds_small a ls id w ha (by omega) hl
end Go.Proofs.Ytbpegpgbdemomaa
