/-
  TablePuts.
-/
import Derived.Test.YteaakfkpbejnoaaInG
namespace Go.Proofs.Yteaakfkpbejnoaa
open Go.RowKit

theorem ARd.opened {w : World} {v : Value} {ts : List (List UInt8)} (h : ARd w v ts) : ∃ ao cap, v = .slice ao ts.length cap ∧ ∀ k, k < ts.length → ∃ g o, ao = some ⟨g, o, none⟩ ∧ g < w.heap.size ∧ w.cell? ⟨g, o + k, none⟩ = some (.string (bs (ts.getD k []))) := by
  rcases h with ⟨h1, ao, cap, h2⟩ | ⟨g, o, cap, h1, h2⟩
  · subst h1
    exact ⟨ao, cap, h2, fun k hk => by simp at hk⟩
  · exact ⟨_, _, h1, fun k hk => ⟨g, o, rfl, World.block_lt_of_cell? _ _ (h2 k hk), h2 k hk⟩⟩
/-- The texts that the first k of a list come to. -/
def upTo (ls : List (List UInt8)) (k : Nat) : List (List UInt8) := putAll [] (ls.take k)
theorem upTo_zero (ls : List (List UInt8)) : upTo ls 0 = [] := rfl
theorem upTo_succ (ls : List (List UInt8)) {k : Nat} (h : k < ls.length) : upTo ls (k + 1) = putN (upTo ls k) (ls.getD k []) := by
  unfold upTo
  rw [List.take_succ_eq_append_getElem h, putAll_snoc, List.getD_eq_getElem?_getD, List.getElem?_eq_getElem h]
  rfl
theorem upTo_len (ls : List (List UInt8)) (k : Nat) : (upTo ls k).length ≤ k := by
  have := putAll_len (ls.take k) []
  have h2 := List.length_take_le k ls
  unfold upTo
  simp at this
  omega
theorem upTo_mem (ls : List (List UInt8)) (k : Nat) : ∀ x ∈ upTo ls k, x ∈ ls := by
  have gen : ∀ (l ts : List (List UInt8)), (∀ x ∈ ts, x ∈ ls) → (∀ x ∈ l, x ∈ ls) → ∀ x ∈ putAll ts l, x ∈ ls := fun l => by
    induction l with
    | nil => intro ts h _; exact h
    | cons s l ih =>
      intro ts h h2
      refine ih (putN ts s) (fun x hx => ?_) (fun x hx => h2 x (List.mem_cons_of_mem _ hx))
      by_cases hm : s ∈ ts
      · rw [putN_in hm] at hx; exact h x hx
      · rw [putN_new hm] at hx
        rcases List.mem_append.1 hx with hx | hx
        · exact h x hx
        · simp at hx; subst hx; exact h2 _ List.mem_cons_self
  exact gen (ls.take k) [] (fun _ h => by cases h) (fun x hx => List.mem_of_mem_take hx)
/-- The table and the document's list of the same texts, neither in the other's blocks. -/
structure Two (w : World) (b : Nat) (wv : Value) (ts : List (List UInt8)) (D : Nat → Prop) (wr : World) : Prop where
  tab : Tab wr D b ts
  row : SRd wr wv ts
  off : ∀ j, wv.ownBlock = some j → ¬ D j
  more : More w wr
  new : ∀ j, D j → w.heap.size ≤ j
theorem Two.later {w wr w' : World} {b : Nat} {wv : Value} {ts : List (List UInt8)} {D : Nat → Prop} (h : Two w b wv ts D wr) (k : More wr w') : Two w b wv ts D w' :=
  ⟨h.tab.more k, h.row.more k, h.off, More.trans h.more k, h.new⟩
theorem Off.srd {w w' : World} {D : Nat → Prop} {v : Value} {ts : List (List UInt8)} (h : Off D w w') (hv : SRd w v ts) (hn : ∀ j, v.ownBlock = some j → ¬ D j) : SRd w' v ts := by
  obtain ⟨B, hB⟩ := hv
  exact ⟨B, h.own hB hn⟩
theorem SRd.blk {w : World} {v : Value} {ts : List (List UInt8)} (hv : SRd w v ts) : ∀ j, v.ownBlock = some j → j < w.heap.size := by
  obtain ⟨B, hB⟩ := hv
  exact fun j hj => (hB.lt j hj).2
/-- One text more for both. -/
theorem Two.put {w wr w1 w2 : World} {b : Nat} {wv v1 : Value} {ts : List (List UInt8)} {D D2 : Nat → Prop} {x : List UInt8} (h : Two w b wv ts D wr) (hS1 : SRd w1 v1 (putN ts x)) (hm1 : More wr w1) (hb1 : ∀ j, v1.ownBlock = some j → wv.ownBlock = some j ∨ wr.heap.size ≤ j)
    (hT2 : Tab w2 D2 b (putN ts x)) (hO2 : Off D w1 w2) (hD2 : ∀ j, D2 j → D j ∨ w1.heap.size ≤ j) : Two w b v1 (putN ts x) D2 w2 := by
  have hn : ∀ j, v1.ownBlock = some j → ¬ D j := fun j hj hd => by
    rcases hb1 j hj with h1 | h1
    · exact h.off j h1 hd
    · have := h.tab.wi j hd; omega
  refine ⟨hT2, hO2.srd hS1 hn, fun j hj hd => ?_, More.trans' (More.trans h.more hm1) hO2 h.new, fun j hj => (hD2 j hj).elim (h.new j) fun h1 => Nat.le_trans (Nat.le_trans h.more.size hm1.size) h1⟩
  rcases hD2 j hd with h1 | h1
  · exact hn j hj h1
  · have := hS1.blk j hj; omega

set_option maxHeartbeats 1600000 in
set_option maxRecDepth 1000000 in
theorem puts_big (v : Value) (ls : List (List UInt8)) (s : ByteArray) (w : World) (ha : ARd w v ls) (hb : 200 < ls.length) :
    Calls Try.prog 3 #[v, .string s] w fun e W' => e = .returned (.bool true) ∧ More w W' := by
  obtain ⟨ao, cap, rfl⟩ := ha.shape
  have hb' : (200 : Int) < (ls.length : Int) := by omega
  clear ha
  generalize ls.length = n at *
  go_enter Try.func3, Try.ntmps3
  go_wp2_with (go_at_call 6; refine (live_true _).mono ?_; rintro e w5 ⟨rfl, hm⟩; have H5 := Hid.mk hm; clear hm)
  go_ret
  exact ⟨rfl, H5.out⟩

set_option maxHeartbeats 8000000 in
set_option maxRecDepth 1000000 in
theorem puts_small (v : Value) (ls : List (List UInt8)) (s : List UInt8) (w : World) (ha : ARd w v ls) (hb : ls.length ≤ 200) (hl : ∀ x ∈ ls, x.length ≤ 281474976710656) (hs : s.length ≤ 281474976710656) :
    Calls Try.prog 3 #[v, .string (bs s)] w fun e W' => e = .returned (.bool true) ∧ More w W' := by
  obtain ⟨ao, cap, rfl, hc⟩ := ha.opened
  obtain ⟨n, hn⟩ : ∃ n, ls.length = n := ⟨_, rfl⟩
  have HC := Hid.mk (And.intro hc (And.intro hl hn))
  rw [hn] at hb ⊢
  have hb' : ¬ (200 : Int) < (n : Int) := by omega
  clear hc ha hn hl
  go_enter Try.func3, Try.ntmps3
  go_wp2_with (go_at_call 7; refine (in_new _).mono ?_; rintro e w1 ⟨rfl, hm1, D1, hT1, hD1⟩; have H1 := Hid.mk (And.intro hm1 (And.intro hT1 hD1)); clear hm1 hT1 hD1)
  go_loopw [6, 7] (fun wv i wr => ∃ (k : Nat) (D : Nat → Prop), k ≤ n ∧ i = .int .i64 k ∧ Two w w.heap.size wv (upTo ls k) D wr) (fun _ i _ => n - (intOf i).toNat)
  case atStart => exact ⟨0, D1, Nat.zero_le _, rfl, by rw [upTo_zero]; exact H1.out.2.1, ⟨0, World.ownsRow_nil _ _ _ _⟩, fun j hj => by simp [Value.ownBlock] at hj, H1.out.1, H1.out.2.2⟩
  case round =>
    obtain ⟨k, D, hk, rfl, h2⟩ := hrel
    obtain ⟨aw, cw, rfl⟩ := h2.row.shape
    have htl := upTo_len ls k
    by_cases hlt : k < n
    · obtain ⟨g, o, rfl, hg, hcell⟩ := HC.out.1 k (by rw [HC.out.2.2]; exact hlt)
      have hxl := HC.out.2.1 (ls.getD k []) (getD_mem (by rw [HC.out.2.2]; exact hlt))
      have hus := upTo_succ ls (k := k) (by rw [HC.out.2.2]; exact hlt)
      obtain ⟨x, hx⟩ : ∃ x, ls.getD k [] = x := ⟨_, rfl⟩
      obtain ⟨ts, hts⟩ : ∃ ts, upTo ls k = ts := ⟨_, rfl⟩
      rw [hx] at hcell hxl hus
      rw [hts] at h2 hus htl ⊢
      have cA := (h2.more.cell hg).trans hcell
      have hf1 := rf_find _ ts x wr h2.row.ard (by omega)
      have hrp := rf_put _ ts x wr h2.row (by omega)
      have hpl := (putN_len ts x).1
      have H2 := Hid.mk (And.intro h2 (And.intro hcell (And.intro hg hus)))
      have T1 := Hid.mk True.intro
      clear h2 hx hts hus hcell
      obtain ⟨M, hM⟩ : ∃ M, (putN ts x).length = M := ⟨_, rfl⟩
      have hMl : M ≤ 200 := by omega
      have HM := Hid.mk hM
      obtain ⟨F1, hF1⟩ : ∃ F1, fnd (putN ts x) x = F1 := ⟨_, rfl⟩
      have HF1 := Hid.mk hF1
      by_cases hm : x ∈ ts
      · have hto : told ts x = .tuple #[.int .i64 F1, .bool false] := by unfold told; rw [hF1, decide_eq_false (fun h => h hm)]
        have hF0 : decide (fnd ts x < 0) = false := decide_eq_false (by rw [fnd_some hm]; omega)
        obtain ⟨F0, hF00⟩ : ∃ F0, fnd ts x = F0 := ⟨_, rfl⟩
        rw [hF00] at hF0 hf1
        have HTO := Hid.mk hto
        clear hm hF00 hM hF1 hto
        go_wp2_with (first
          | (have TT := T1; clear TT T1; go_at_call 8; refine hf1.mono ?_; rintro e w' ⟨rfl, hw'⟩; subst w')
          | (go_at_call 9; refine hrp.mono ?_; rintro e w1 ⟨v1, rfl, hS1, hm1, hb1⟩; have cB := (hm1.cell (World.block_lt_of_cell? _ _ cA)).trans cA; have hP := callsIn_wide.1 (in_Put 16 (Nat.le_refl _) w1 D w.heap.size ts x (H2.out.1.tab.more hm1) (by omega) hxl); rw [HTO.out] at hP; obtain ⟨a1, c1, rfl⟩ := hS1.shape; rw [HM.out]; have HS1 := Hid.mk (And.intro hS1 (And.intro hm1 hb1)); clear hS1 hm1 hb1 hrp)
          | (go_at_call 10; refine hP.mono ?_; rintro e w2 ⟨rfl, D2, hT2, hO2, hD2⟩; have h2 := H2.out.1.put HS1.out.1 HS1.out.2.1 HS1.out.2.2 hT2 hO2 hD2; have cC := (h2.more.cell H2.out.2.2.1).trans H2.out.2.1; have hf2 := rf_find _ _ x w2 h2.row.ard (by omega); rw [HM.out, HF1.out] at hf2; have hln := in_Len _ _ _ _ h2.tab; rw [HM.out] at hln; have hsl := in_Slots _ _ _ _ h2.tab; rw [HM.out] at hsl; have hrs := fun w => rf_slots M (by omega) w; have H3 := Hid.mk h2; clear h2 hT2 hO2 hD2 hP)
          | (go_at_call 8; refine hf2.mono ?_; rintro e w' ⟨rfl, hw'⟩; subst w')
          | (go_at_call 11; refine hln.mono ?_; rintro e w' ⟨rfl, hw'⟩; subst w')
          | (go_at_call 12; refine hsl.mono ?_; rintro e w' ⟨rfl, hw'⟩; subst w')
          | (go_at_call 13; refine (hrs _).mono ?_; rintro e w' ⟨rfl, hw'⟩; subst w'))
        go_roundw
        case rel => exact ⟨k + 1, D2, by omega, by go_num, by rw [H2.out.2.2.2, ← HM.out]; exact H3.out⟩
        case measure => simp [intOf]; omega
      · have hto : told ts x = .tuple #[.int .i64 F1, .bool true] := by unfold told; rw [hF1, decide_eq_true hm]
        rw [fnd_none hm] at hf1
        have HTO := Hid.mk hto
        clear hm hM hF1 hto
        go_wp2_with (first
          | (have TT := T1; clear TT T1; go_at_call 8; refine hf1.mono ?_; rintro e w' ⟨rfl, hw'⟩; subst w')
          | (go_at_call 9; refine hrp.mono ?_; rintro e w1 ⟨v1, rfl, hS1, hm1, hb1⟩; have cB := (hm1.cell (World.block_lt_of_cell? _ _ cA)).trans cA; have hP := callsIn_wide.1 (in_Put 16 (Nat.le_refl _) w1 D w.heap.size ts x (H2.out.1.tab.more hm1) (by omega) hxl); rw [HTO.out] at hP; obtain ⟨a1, c1, rfl⟩ := hS1.shape; rw [HM.out]; have HS1 := Hid.mk (And.intro hS1 (And.intro hm1 hb1)); clear hS1 hm1 hb1 hrp)
          | (go_at_call 10; refine hP.mono ?_; rintro e w2 ⟨rfl, D2, hT2, hO2, hD2⟩; have h2 := H2.out.1.put HS1.out.1 HS1.out.2.1 HS1.out.2.2 hT2 hO2 hD2; have cC := (h2.more.cell H2.out.2.2.1).trans H2.out.2.1; have hf2 := rf_find _ _ x w2 h2.row.ard (by omega); rw [HM.out, HF1.out] at hf2; have hln := in_Len _ _ _ _ h2.tab; rw [HM.out] at hln; have hsl := in_Slots _ _ _ _ h2.tab; rw [HM.out] at hsl; have hrs := fun w => rf_slots M (by omega) w; have H3 := Hid.mk h2; clear h2 hT2 hO2 hD2 hP)
          | (go_at_call 8; refine hf2.mono ?_; rintro e w' ⟨rfl, hw'⟩; subst w')
          | (go_at_call 11; refine hln.mono ?_; rintro e w' ⟨rfl, hw'⟩; subst w')
          | (go_at_call 12; refine hsl.mono ?_; rintro e w' ⟨rfl, hw'⟩; subst w')
          | (go_at_call 13; refine (hrs _).mono ?_; rintro e w' ⟨rfl, hw'⟩; subst w'))
        go_roundw
        case rel => exact ⟨k + 1, D2, by omega, by go_num, by rw [H2.out.2.2.2, ← HM.out]; exact H3.out⟩
        case measure => simp [intOf]; omega
    · obtain rfl : k = n := by omega
      obtain ⟨ts, hts⟩ : ∃ ts, upTo ls k = ts := ⟨_, rfl⟩
      rw [hts] at h2 htl ⊢
      have hfd := callsIn_wide.1 (in_Find 16 (Nat.le_refl _) wr D w.heap.size ts s h2.tab (by omega) hs)
      obtain ⟨F, hF⟩ : ∃ F, fnd ts s = F := ⟨_, rfl⟩
      rw [hF] at hfd
      have H2 := Hid.mk (And.intro h2 hF)
      clear h2 hts hF
      go_wp2_with (first
        | (go_at_call 14; refine hfd.mono ?_; rintro e w2 ⟨rfl, hm2⟩; have h3 := H2.out.1.later hm2; have hf := rf_find _ ts s w2 h3.row.ard (by omega); rw [H2.out.2] at hf; have H3 := Hid.mk h3.more; clear h3 hm2)
        | (go_at_call 8; refine hf.mono ?_; rintro e w' ⟨rfl, hw'⟩; subst w')
        | (go_at_call 6; refine (live_true _).mono ?_; rintro e w5 ⟨rfl, hm⟩; have H5 := Hid.mk hm; clear hm))
      go_ret
      exact ⟨rfl, More.trans H3.out H5.out⟩

theorem tablePuts (v : Value) (ls : List (List UInt8)) (s : List UInt8) (w : World) (ha : ARd w v ls) (hl : ∀ x ∈ ls, x.length ≤ 281474976710656) (hs : s.length ≤ 281474976710656) :
    Calls Try.prog 3 #[v, .string (bs s)] w fun e W' => e = .returned (.bool true) ∧ More w W' := by
  by_cases hb : 200 < ls.length
  · exact puts_big v ls _ w ha hb
  · exact puts_small v ls s w ha (by omega) hl hs
end Go.Proofs.Yteaakfkpbejnoaa
