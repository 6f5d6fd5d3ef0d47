/-
  StreamWrites, walked.
-/
import Derived.Test.YtgcjbkcfcklcfaaDoorStreamLawB
import Derived.Deep.RegionHeld
namespace Go.Proofs.YtgcjbkcfcklcfaaDoor
open Go.RowKit

/-- A slice of K codes is read. -/
def CRd (w : World) (v : Value) (K : Nat) (cK : Nat → Int) (cX : Nat → Nat) (cN : Nat → Int) : Prop :=
  (K = 0 ∧ ∃ ao cap, v = .slice ao 0 cap) ∨ ∃ g o cap, v = .slice (some ⟨g, o, none⟩) K cap ∧ g < w.heap.size ∧
    ∀ j, j < K → w.cell? ⟨g, o + j * 3, none⟩ = some (.int .i64 (cK j)) ∧ w.cell? ⟨g, o + j * 3 + 1, none⟩ = some (.int .u64 (cX j : Nat)) ∧ w.cell? ⟨g, o + j * 3 + 2, none⟩ = some (.int .i64 (cN j))
theorem CRd.shape {w : World} {v : Value} {K : Nat} {cK : Nat → Int} {cX : Nat → Nat} {cN : Nat → Int} (h : CRd w v K cK cX cN) : ∃ ao cap, v = .slice ao K cap := by
  rcases h with ⟨rfl, ao, cap, rfl⟩ | ⟨g, o, cap, rfl, _⟩
  · exact ⟨_, _, rfl⟩
  · exact ⟨_, _, rfl⟩

/-- The code that lies at a place. -/
def CodeIn (w : World) (g p : Nat) (kd : Int) (x : Nat) (N : Int) : Prop :=
  w.cell? ⟨g, p, none⟩ = some (.int .i64 kd) ∧ w.cell? ⟨g, p + 1, none⟩ = some (.int .u64 x) ∧ w.cell? ⟨g, p + 2, none⟩ = some (.int .i64 N)
theorem CRd.at {w : World} {ao : Option Addr} {K cap : Nat} {cK : Nat → Int} {cX : Nat → Nat} {cN : Nat → Int} (h : CRd w (.slice ao K cap) K cK cX cN) {k : Nat} (hk : k < K) :
    ∃ g o, ao = some ⟨g, o, none⟩ ∧ ∀ w', More w w' → CodeIn w' g (o + k * 3) (cK k) (cX k) (cN k) := by
  rcases h with ⟨rfl, _⟩ | ⟨g, o, cap', h, hg, hc⟩
  · omega
  · simp at h
    obtain ⟨h0, h1, h2⟩ := hc k hk
    exact ⟨g, o, h.1, fun w' hb => ⟨(hb.cell (p := ⟨g, o + k * 3, none⟩) hg).trans h0, (hb.cell (p := ⟨g, o + k * 3 + 1, none⟩) hg).trans h1, (hb.cell (p := ⟨g, o + k * 3 + 2, none⟩) hg).trans h2⟩⟩

/-- The class of the worlds in which a round's code is read. -/
theorem held_code {wr w w' : World} {g p : Nat} {u v x : Value} (h : More wr w ∧ w.cell? ⟨g, p, none⟩ = some u ∧ w.cell? ⟨g, p + 1, none⟩ = some v ∧ w.cell? ⟨g, p + 2, none⟩ = some x) (k : More w w') :
    More wr w' ∧ w'.cell? ⟨g, p, none⟩ = some u ∧ w'.cell? ⟨g, p + 1, none⟩ = some v ∧ w'.cell? ⟨g, p + 2, none⟩ = some x := by
  have hb := World.block_lt_of_cell? w _ h.2.1
  exact ⟨More.trans h.1 k, (k.cell (p := ⟨g, p, none⟩) hb).trans h.2.1, (k.cell (p := ⟨g, p + 1, none⟩) hb).trans h.2.2.1, (k.cell (p := ⟨g, p + 2, none⟩) hb).trans h.2.2.2⟩

theorem same_words (a b : Value) (K : Nat) (f : Nat → Nat) (w : World) (h : Rd w a K f) (h' : Rd w b K f) (hK : K ≤ 1099511627776) :
    Calls Tryd.prog 13 #[a, b] w fun e w' => e = .returned (.bool true) ∧ More w w' :=
  (ref_same a b K K f f w h h' hK hK).mono fun e w' ⟨r, he, hr, m, hm⟩ => ⟨by rw [he, hr.2 ⟨rfl, fun _ _ => rfl⟩], by subst hm; exact More.drewN _ _⟩

set_option maxHeartbeats 6400000 in
set_option maxRecDepth 1000000 in
theorem streamWrites (v : Value) (K : Nat) (cK : Nat → Int) (cX : Nat → Nat) (cN : Nat → Int) (w : World) (h : CRd w v K cK cX cN) (hX : ∀ k, cX k < 18446744073709551616) (hK : K ≤ 9223372036854775807) (hT : TabIn w) :
    Calls Tryd.prog 3 #[v] w fun e w' => e = .returned (.bool true) ∧ Below w.heap.size w w' := by
  by_cases hbig : 30 < K
  · obtain ⟨ao, cap, rfl⟩ := h.shape
    have hl := live_true w hT
    clear h hT
    go_enter Tryd.func3, Tryd.ntmps3
    go_wp2_with (go_at_call 7; refine hl.mono ?_; rintro e w' ⟨rfl, hm⟩)
    go_ret
    exact ⟨rfl, hm⟩
  have h0 : 0 < w.heap.size := World.block_lt_of_cell? w ⟨0, 0, none⟩ (hT 0 (by omega))
  have HT := Hid.mk (fun (w' : World) (h : Below w.heap.size w w') => hT.below h h0)
  obtain ⟨ao, cap, rfl⟩ := h.shape
  have HH := Hid.mk (And.intro h (accW_fit cK cX cN hX))
  have HX := Hid.mk hX
  have HW0 := Hid.mk (And.intro (WrAt.new w) (more_box w (.cells #[.pointer none] 27)))
  clear h hT h0 hX
  go_enter Tryd.func3, Tryd.ntmps3
  go_wp2
  go_loopw [5, 6] (fun vo i wr => ∃ k V n : Nat, k ≤ K ∧ i = .int .i64 k ∧ Hid ((V, n) = accW cK cX cN k) ∧ Hid (WrAt wr w.heap.size w.heap.size V n ∧ wr.ownsRow w.heap.size 4 1 vo n (bools V n) ∧ Below w.heap.size w wr)) (fun _ i _ => K - (intOf i).toNat)
  case atStart => exact ⟨0, 0, 0, Nat.zero_le _, rfl, Hid.mk rfl, Hid.mk ⟨HW0.out.1, World.ownsRow_nil _ _ _ _, HW0.out.2⟩⟩
  case round =>
    obtain ⟨k, V, n, hk, rfl, hacc, HR⟩ := hrel
    obtain ⟨ao1, cap1, rfl⟩ := shape_of HR.out.2.1
    have hfit : V < 2 ^ n ∧ n ≤ 4160 * k := by have := HH.out.2 k; rw [← hacc.out] at this; exact this
    by_cases hkK : k < K
    · obtain ⟨g, o, rfl, hcode⟩ := HH.out.1.at hkK
      have hx := HX.out k
      have hstep : (wrV (cK k) V n (cX k) (cN k), wrN (cK k) n (cX k) (cN k)) = accW cK cX cN (k + 1) := by
        rw [accW, ← hacc.out]
      have hnb : n + 5000 ≤ 1099511627776 := by omega
      have hwr := fun w' (h : WrAt w' w.heap.size w.heap.size V n) => law_write w.heap.size w.heap.size V n (cX k) (cK k) (cN k) w' h hx hnb
      have href := fun v' w' (ho : w'.ownsRow w.heap.size 4 1 v' n (bools V n)) (hb : w.heap.size ≤ w'.heap.size) => ref_write w.heap.size n V (cX k) (knd (cK k)) (cN k) v' w' ho hb hfit.1 hx (by omega)
      unfold Wrote at href
      unfold Put at hwr
      rw [cdE_knd, wrV_knd, wrN_knd] at href
      have hkind := fun w' => law_kind (cK k) (cN k) (cX k) w'
      have hno := fun w' => none_write (cX k) (cK k) (cN k) w'
      unfold CodeIn at hcode
      generalize cK k = kd at *
      generalize cX k = x at *
      generalize cN k = N at *
      generalize knd kd = kn at *
      generalize cdE kd x N = E at *
      generalize wrV kd V n x N = V' at *
      generalize wrN kd n x N = n' at *
      have HC := Hid.mk hcode
      have HS := Hid.mk hstep
      have hS0 : More wr wr ∧ wr.cell? ⟨g, o + k * 3, none⟩ = some (.int .i64 kd) ∧ wr.cell? ⟨g, o + k * 3 + 1, none⟩ = some (.int .u64 x) ∧ wr.cell? ⟨g, o + k * 3 + 2, none⟩ = some (.int .i64 N) :=
        ⟨Below.refl _ _, HC.out wr HR.out.2.2⟩
      clear hcode hstep HH HX hfit
      go_wp2_with fail
      go_region_held (fun w' => More wr w' ∧ w'.cell? ⟨g, o + k * 3, none⟩ = some (.int .i64 kd) ∧ w'.cell? ⟨g, o + k * 3 + 1, none⟩ = some (.int .u64 x) ∧ w'.cell? ⟨g, o + k * 3 + 2, none⟩ = some (.int .i64 N))
        (first | assumption | exact held_code (by assumption) (by assumption) | exact held_code (by assumption) (More.drewN _ 1))
        (first
          | (go_at_call 9; refine (hkind _).mono ?_; rintro e w2 ⟨rfl, hw2⟩; have hm2 : More _ w2 := (by rw [hw2]; exact more_box _ _); clear hw2)
          | (go_at_call 8; refine (href _ _ ?_ ?_).mono ?_; exact More.own HR.out.2.1 (And.left (by assumption)); exact Nat.le_trans HR.out.2.2.size (And.left (by assumption) : More wr _).size; rintro e w3 ⟨v3, rfl, ho3, hm3⟩; have H3 := Hid.mk ho3; clear ho3))
      obtain ⟨hm, d0, d1, d2⟩ : More wr w3 ∧ w3.cell? ⟨g, o + k * 3, none⟩ = some (.int .i64 kd) ∧ w3.cell? ⟨g, o + k * 3 + 1, none⟩ = some (.int .u64 x) ∧ w3.cell? ⟨g, o + k * 3 + 2, none⟩ = some (.int .i64 N) := by assumption
      have H4 := Hid.mk (And.intro H3.out (And.intro (HR.out.1.more hm) (Below.trans HR.out.2.2 (hm.mono HR.out.2.2.size))))
      obtain ⟨ao3, cap3, rfl⟩ := shape_of H3.out
      have T1 : Hid True := trivial
      clear hm hm2 hm3 H3 hS0 href hkind HR
      go_wp2_with (first
        | (go_at_call 10; have T2 := T1; clear T1; refine (hwr w3 H4.out.2.1).mono ?_; rintro e w4 ⟨rfl, ha, hb⟩; have H5 := Hid.mk (And.intro (hb.own H4.out.1) (And.intro ha (Below.trans H4.out.2.2 hb.below))); clear ha hb d0 d1 d2; obtain ⟨d0, d1, d2⟩ := HC.out w4 H5.out.2.2)
        | (go_at_call 10; refine (hno w4).mono ?_; rintro e w5 ⟨rfl, hw5⟩; have hm5 := more_box w4 (codeO kd x N); rw [← hw5] at hm5; clear hw5; have H6 := Hid.mk (And.intro (H5.out.2.1.more hm5) (And.intro (More.own H5.out.1 hm5) (Below.trans H5.out.2.2 (hm5.mono H5.out.2.2.size)))); clear hm5))
      exact ⟨⟨k + 1, V', n', by omega, by go_num, HS, H6⟩, by simp [intOf]; omega⟩
    · obtain rfl : k = K := by omega
      have hnb : n ≤ 1000000 := by omega
      have hnw : nw n ≤ 1099511627776 := by unfold nw; omega
      have T1 : Hid True := trivial
      have HV := Hid.mk hfit
      clear HH HX hfit hacc
      go_wp2_with (first
        | (go_at_call 11; have T2 := T1; clear T1; refine (wr_row _ _ V n wr HR.out.1).mono ?_; rintro e w2 ⟨c, rfl, ha, hb⟩; have H2 := Hid.mk (And.intro ha (And.intro (More.own HR.out.2.1 hb) (Below.trans HR.out.2.2 (hb.mono HR.out.2.2.size)))); clear ha hb)
        | (go_at_call_of 12 (Value.pointer (some ⟨c, 0, none⟩)); refine (row_len c n w2 H2.out.1.rd.c1).mono ?_; rintro e w' ⟨rfl, hw'⟩; subst w')
        | (go_at_call 14; refine (row_words _ c V n w2 H2.out.1).mono ?_; rintro e w3 ⟨v3, rfl, ha, hb⟩; have H3 := Hid.mk (And.intro ha (And.intro (More.own H2.out.2.1 hb.below) (Below.trans H2.out.2.2 (hb.below.mono H2.out.2.2.size)))); clear ha hb; obtain ⟨ao3, cap3, rfl⟩ := shape_of H3.out.1)
        | (go_at_call 15; refine (ref_words _ n V w3 (brd_of_own H3.out.2.1) HV.out.1 (by omega)).mono ?_; rintro e w4 ⟨v4, rfl, ha, hb⟩; have H4 := Hid.mk (And.intro ha (And.intro (More.own H3.out.1 hb) (Below.trans H3.out.2.2 (hb.mono H3.out.2.2.size)))); clear ha hb; obtain ⟨ao4, cap4, rfl⟩ := shape_of H4.out.1)
        | (go_at_call 13; refine (same_words _ _ (nw n) (wd V) w4 (rd_of_own H4.out.2.1) (rd_of_own H4.out.1) hnw).mono ?_; rintro e w5 ⟨rfl, hb⟩; have H5 := Hid.mk (Below.trans H4.out.2.2 (hb.mono H4.out.2.2.size)); clear hb)
        | (go_at_call 11; refine (none_row w5).mono ?_; rintro e w6 ⟨c2, rfl, ha, hb⟩; have H6 := Hid.mk (And.intro ha (Below.trans H5.out (hb.mono H5.out.size))); clear ha hb)
        | (go_at_call 12; refine (row_len c2 0 w6 H6.out.1.rd.c1).mono ?_; rintro e w' ⟨rfl, hw'⟩; subst w')
        | (go_at_call 7; refine (live_true w6 (HT.out w6 H6.out.2)).mono ?_; rintro e w7 ⟨rfl, hb⟩; have H7 := Hid.mk (Below.trans H6.out.2 (hb.mono H6.out.2.size)); clear hb))
      go_ret
      exact ⟨rfl, H7.out⟩

end Go.Proofs.YtgcjbkcfcklcfaaDoor
