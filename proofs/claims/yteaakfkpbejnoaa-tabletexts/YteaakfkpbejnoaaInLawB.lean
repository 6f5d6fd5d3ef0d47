/-
  TableTexts.
-/
import Derived.Test.YteaakfkpbejnoaaInLawA
namespace Go.Proofs.Yteaakfkpbejnoaa
open Go.RowKit

/-- One text more for both, the table first. -/
theorem Two.put' {w wr w1 w2 : World} {b : Nat} {wv v2 : Value} {ts : List (List UInt8)} {D D2 : Nat → Prop} {x : List UInt8} (h : Two w b wv ts D wr) (hT1 : Tab w1 D2 b (putN ts x)) (hO1 : Off D wr w1) (hD2 : ∀ j, D2 j → D j ∨ wr.heap.size ≤ j)
    (hS2 : SRd w2 v2 (putN ts x)) (hm2 : More w1 w2) (hb2 : ∀ j, v2.ownBlock = some j → wv.ownBlock = some j ∨ w1.heap.size ≤ j) : Two w b v2 (putN ts x) D2 w2 := by
  refine ⟨hT1.more hm2, hS2, fun j hj hd => ?_, More.trans (More.trans' h.more hO1 h.new) hm2, fun j hj => (hD2 j hj).elim (h.new j) fun h1 => Nat.le_trans h.more.size h1⟩
  rcases hb2 j hj with h1 | h1
  · rcases hD2 j hd with h3 | h3
    · exact h.off j h1 h3
    · have := h.row.blk j h1; omega
  · have := hT1.wi j hd; omega
theorem SRd.opened {w : World} {v : Value} {ts : List (List UInt8)} (h : SRd w v ts) (hn : 0 < ts.length) : ∃ g cap, v = .slice (some ⟨g, 0, none⟩) ts.length cap ∧ g < w.heap.size ∧ ∀ k, k < ts.length → w.cell? ⟨g, k, none⟩ = some (.string (bs (ts.getD k []))) := by
  rcases h.form with ⟨h1, _⟩ | ⟨g, cap, h1, _, h2⟩
  · rw [h1] at hn; simp at hn
  · exact ⟨g, cap, h1, World.block_lt_of_cell? _ _ (h2 0 hn), h2⟩
theorem txt_in {ts : List (List UInt8)} {k : Nat} (h : k < ts.length) : txt ts (k : Int) = .tuple #[.string (bs (ts.getD k [])), .bool true] := by
  unfold txt; rw [if_pos (by omega), Int.toNat_natCast]
theorem txt_out {ts : List (List UInt8)} {i : Int} (h : ¬ (0 ≤ i ∧ i < ts.length)) : txt ts i = .tuple #[.string (bs []), .bool false] := if_neg h

set_option maxHeartbeats 1600000 in
set_option maxRecDepth 1000000 in
theorem texts_big (v : Value) (ls : List (List UInt8)) (i : Int) (w : World) (ha : ARd w v ls) (hb : 200 < ls.length) :
    Calls Try.prog 4 #[v, .int .i64 i] w fun e W' => e = .returned (.bool true) ∧ More w W' := by
  obtain ⟨ao, cap, rfl⟩ := ha.shape
  have hb' : (200 : Int) < (ls.length : Int) := by omega
  clear ha
  generalize ls.length = n at *
  go_enter Try.func4, Try.ntmps4
  go_wp2_with (go_at_call 6; refine (live_true _).mono ?_; rintro e w5 ⟨rfl, hm⟩; have H5 := Hid.mk hm; clear hm)
  go_ret
  exact ⟨rfl, H5.out⟩

set_option maxHeartbeats 8000000 in
set_option maxRecDepth 1000000 in
theorem texts_small (v : Value) (ls : List (List UInt8)) (i : Int) (w : World) (ha : ARd w v ls) (hb : ls.length ≤ 200) (hl : ∀ x ∈ ls, x.length ≤ 281474976710656) :
    Calls Try.prog 4 #[v, .int .i64 i] w fun e W' => e = .returned (.bool true) ∧ More w W' := by
  obtain ⟨ao, cap, rfl, hc⟩ := ha.opened
  obtain ⟨n, hn⟩ : ∃ n, ls.length = n := ⟨_, rfl⟩
  have HC := Hid.mk (And.intro hc (And.intro hl hn))
  rw [hn] at hb ⊢
  have hb' : ¬ (200 : Int) < (n : Int) := by omega
  clear hc ha hn hl
  go_enter Try.func4, Try.ntmps4
  go_wp2_with (go_at_call 7; refine (in_new _).mono ?_; rintro e w1 ⟨rfl, hm1, D1, hT1, hD1⟩; have H1 := Hid.mk (And.intro hm1 (And.intro hT1 hD1)); clear hm1 hT1 hD1)
  go_loopw [6, 7] (fun wv i wr => ∃ (k : Nat) (D : Nat → Prop), k ≤ n ∧ i = .int .i64 k ∧ Two w w.heap.size wv (upTo ls k) D wr) (fun _ i _ => n - (intOf i).toNat)
  case atStart => exact ⟨0, D1, Nat.zero_le _, rfl, by rw [upTo_zero]; exact H1.out.2.1, ⟨0, World.ownsRow_nil _ _ _ _⟩, fun j hj => by simp [Value.ownBlock] at hj, H1.out.1, H1.out.2.2⟩
  case round =>
    obtain ⟨k, D, hk, rfl, h2⟩ := hrel
    obtain ⟨aw, cw, rfl⟩ := h2.row.shape
    have htl := upTo_len ls k
    by_cases hlt : k < n
    · obtain ⟨g, o, rfl, hg, hcell⟩ := HC.out.1 k (by rw [HC.out.2.2]; exact hlt)
      have hxl := HC.out.2.1 (ls.getD k []) (getD_mem (by rw [HC.out.2.2]; exact hlt))
      have hus := upTo_succ ls (k := k) (by rw [HC.out.2.2]; exact hlt)
      obtain ⟨x, hx⟩ : ∃ x, ls.getD k [] = x := ⟨_, rfl⟩
      obtain ⟨ts, hts⟩ : ∃ ts, upTo ls k = ts := ⟨_, rfl⟩
      rw [hx] at hcell hxl hus
      rw [hts] at h2 hus htl ⊢
      have cA := (h2.more.cell hg).trans hcell
      have hP := callsIn_wide.1 (in_Put 16 (Nat.le_refl _) wr D w.heap.size ts x h2.tab (by omega) hxl)
      obtain ⟨tv, htv⟩ : ∃ tv, told ts x = tv := ⟨_, rfl⟩
      rw [htv] at hP
      have H2 := Hid.mk (And.intro h2 (And.intro hcell (And.intro hg hus)))
      clear h2 hx hts hus hcell htv
      go_wp2_with (first
        | (go_at_call 10; refine hP.mono ?_; rintro e w1 ⟨rfl, D2, hT1, hO1, hD2⟩; have hm1 := More.trans' H2.out.1.more hO1 H2.out.1.new; have cB := (hm1.cell H2.out.2.2.1).trans H2.out.2.1; have hrp := rf_put _ ts x w1 (hO1.srd H2.out.1.row H2.out.1.off) (by omega); have HT1 := Hid.mk (And.intro hT1 (And.intro hO1 hD2)); clear hT1 hO1 hD2 hm1 hP cA)
        | (go_at_call 9; refine hrp.mono ?_; rintro e w2 ⟨v2, rfl, hS2, hm2, hb2⟩; have h3 := H2.out.1.put' HT1.out.1 HT1.out.2.1 HT1.out.2.2 hS2 hm2 hb2; have H3 := Hid.mk h3; clear h3 hS2 hm2 hb2 hrp))
      go_roundw
      case rel => exact ⟨k + 1, D2, by omega, by go_num, by rw [H2.out.2.2.2]; exact H3.out⟩
      case measure => simp [intOf]; omega
    · obtain rfl : k = n := by omega
      have hmem : ∀ y ∈ upTo ls k, y.length ≤ 281474976710656 := fun y hy => HC.out.2.1 y (upTo_mem ls k y hy)
      obtain ⟨ts, hts⟩ : ∃ ts, upTo ls k = ts := ⟨_, rfl⟩
      rw [hts] at h2 htl hmem ⊢
      obtain ⟨M, hM⟩ : ∃ M, ts.length = M := ⟨_, rfl⟩
      rw [hM] at htl ⊢
      have hop := h2.row.opened
      rw [hM] at hop
      have HM := Hid.mk (And.intro hM (And.intro hmem hop))
      have hM2 : M ≤ 200 := by omega
      have HI := Hid.mk h2
      clear hts hM hmem hop h2
      go_wp2
      go_loopw [8] (fun i w2 => ∃ q : Nat, q ≤ M ∧ i = .int .i64 q ∧ More wr w2) (fun i _ => M - (intOf i).toNat)
      case atStart => exact ⟨0, Nat.zero_le _, rfl, More.refl _⟩
      case round =>
        obtain ⟨q, hq, rfl, hmq⟩ := hrel
        have h2 := HI.out.later hmq
        by_cases hlt2 : q < M
        · obtain ⟨g2, cp2, heq, hg2, hcl⟩ := HM.out.2.2 (by omega)
          simp only [Value.slice.injEq, true_and] at heq
          obtain ⟨rfl, rfl⟩ := heq
          have cq := (hmq.cell hg2).trans (hcl q hlt2)
          have hyl := HM.out.2.1 (ts.getD q []) (getD_mem (by rw [HM.out.1]; exact hlt2))
          have hfn := fnd_at h2.tab.nodup (i := q) (by rw [HM.out.1]; exact hlt2) rfl
          have htx := in_Text _ _ _ ts (q : Int) h2.tab
          rw [txt_in (by rw [HM.out.1]; exact hlt2)] at htx
          obtain ⟨y, hy⟩ : ∃ y, ts.getD q [] = y := ⟨_, rfl⟩
          rw [hy] at cq hyl hfn htx
          have hfd := callsIn_wide.1 (in_Find 16 (Nat.le_refl _) _ D w.heap.size ts y h2.tab (by rw [HM.out.1]; omega) hyl)
          rw [hfn] at hfd
          have HQ := Hid.mk hmq
          clear h2 hcl hy hfn hmq
          go_wp2_with (first
            | (go_at_call 15; refine htx.mono ?_; rintro e w' ⟨rfl, hw'⟩; subst w')
            | (go_at_call 14; refine hfd.mono ?_; rintro e w3 ⟨rfl, hm3⟩; have H3 := Hid.mk hm3; clear hm3))
          go_roundw
          case rel => exact ⟨q + 1, by omega, by go_num, More.trans HQ.out H3.out⟩
          case measure => simp [intOf]; omega
        · obtain rfl : q = M := by omega
          have htx := in_Text _ _ _ ts i h2.tab
          have T1 := Hid.mk True.intro
          have hnT := fun w => inn_Text i w
          rw [← bs_nil] at hnT
          have HQ := Hid.mk (More.trans HI.out.more hmq)
          by_cases hir : 0 ≤ i ∧ i < (q : Int)
          · obtain ⟨j, rfl⟩ := Int.eq_ofNat_of_zero_le hir.1
            have hjq : j < q := by omega
            obtain ⟨g2, cp2, heq, hg2, hcl⟩ := HM.out.2.2 (by omega)
            simp only [Value.slice.injEq, true_and] at heq
            obtain ⟨rfl, rfl⟩ := heq
            have cj := (hmq.cell hg2).trans (hcl j hjq)
            rw [txt_in (by rw [HM.out.1]; exact hjq)] at htx
            obtain ⟨y, hy⟩ : ∃ y, ts.getD j [] = y := ⟨_, rfl⟩
            rw [hy] at cj htx
            have hd1 : decide ((j : Int) < 0) = false := decide_eq_false (by omega)
            have hd2 : decide ((q : Int) ≤ (j : Int)) = false := decide_eq_false (by omega)
            clear h2 hcl hy hmq hir
            go_wp2_with (first
              | (have TT := T1; clear TT T1; go_at_call 15; refine htx.mono ?_; rintro e w' ⟨rfl, hw'⟩; subst w')
              | (go_at_call 15; refine (hnT _).mono ?_; rintro e w' ⟨rfl, hw'⟩; subst w')
              | (go_at_call 10; refine (inn_Put _ _).mono ?_; rintro e w' ⟨rfl, hw'⟩; subst w')
              | (go_at_call 14; refine (inn_Find _ _).mono ?_; rintro e w' ⟨rfl, hw'⟩; subst w')
              | (go_at_call 11; refine (inn_Len _).mono ?_; rintro e w' ⟨rfl, hw'⟩; subst w')
              | (go_at_call 12; refine (inn_Slots _).mono ?_; rintro e w' ⟨rfl, hw'⟩; subst w')
              | (go_at_call 6; refine (live_true _).mono ?_; rintro e w5 ⟨rfl, hm⟩; have H5 := Hid.mk hm; clear hm))
            go_ret
            exact ⟨rfl, More.trans HQ.out H5.out⟩
          · rw [txt_out (by rw [HM.out.1]; exact hir), ← bs_nil] at htx
            by_cases hi0 : i < 0
            · have hd1 : decide (i < 0) = true := decide_eq_true hi0
              clear h2 hmq hir
              go_wp2_with (first
                | (have TT := T1; clear TT T1; go_at_call 15; refine htx.mono ?_; rintro e w' ⟨rfl, hw'⟩; subst w')
                | (go_at_call 15; refine (hnT _).mono ?_; rintro e w' ⟨rfl, hw'⟩; subst w')
                | (go_at_call 10; refine (inn_Put _ _).mono ?_; rintro e w' ⟨rfl, hw'⟩; subst w')
                | (go_at_call 14; refine (inn_Find _ _).mono ?_; rintro e w' ⟨rfl, hw'⟩; subst w')
                | (go_at_call 11; refine (inn_Len _).mono ?_; rintro e w' ⟨rfl, hw'⟩; subst w')
                | (go_at_call 12; refine (inn_Slots _).mono ?_; rintro e w' ⟨rfl, hw'⟩; subst w')
                | (go_at_call 6; refine (live_true _).mono ?_; rintro e w5 ⟨rfl, hm⟩; have H5 := Hid.mk hm; clear hm))
              go_ret
              exact ⟨rfl, More.trans HQ.out H5.out⟩
            · have hd1 : decide (i < 0) = false := decide_eq_false hi0
              have hd2 : decide ((q : Int) ≤ i) = true := decide_eq_true (by omega)
              have hd3 : (q : Int) ≤ i := by omega
              clear h2 hmq hir
              go_wp2_with (first
                | (have TT := T1; clear TT T1; go_at_call 15; refine htx.mono ?_; rintro e w' ⟨rfl, hw'⟩; subst w')
                | (go_at_call 15; refine (hnT _).mono ?_; rintro e w' ⟨rfl, hw'⟩; subst w')
                | (go_at_call 10; refine (inn_Put _ _).mono ?_; rintro e w' ⟨rfl, hw'⟩; subst w')
                | (go_at_call 14; refine (inn_Find _ _).mono ?_; rintro e w' ⟨rfl, hw'⟩; subst w')
                | (go_at_call 11; refine (inn_Len _).mono ?_; rintro e w' ⟨rfl, hw'⟩; subst w')
                | (go_at_call 12; refine (inn_Slots _).mono ?_; rintro e w' ⟨rfl, hw'⟩; subst w')
                | (go_at_call 6; refine (live_true _).mono ?_; rintro e w5 ⟨rfl, hm⟩; have H5 := Hid.mk hm; clear hm))
              go_ret
              exact ⟨rfl, More.trans HQ.out H5.out⟩

theorem tableTexts (v : Value) (ls : List (List UInt8)) (i : Int) (w : World) (ha : ARd w v ls) (hl : ∀ x ∈ ls, x.length ≤ 281474976710656) :
    Calls Try.prog 4 #[v, .int .i64 i] w fun e W' => e = .returned (.bool true) ∧ More w W' := by
  by_cases hb : 200 < ls.length
  · exact texts_big v ls i w ha hb
  · exact texts_small v ls i w ha (by omega) hl
end Go.Proofs.Yteaakfkpbejnoaa
