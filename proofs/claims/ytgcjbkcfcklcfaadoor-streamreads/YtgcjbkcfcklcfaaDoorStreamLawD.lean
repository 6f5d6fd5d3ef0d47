/-
  StreamReads, walked.
-/
import Derived.Test.YtgcjbkcfcklcfaaDoorStreamLawC
namespace Go.Proofs.YtgcjbkcfcklcfaaDoor
open Go.RowKit

/-- What is left: m bits, the number U. -/
def LeftIs (w : World) (v : Value) (m U : Nat) : Prop :=
  (v = .slice none 0 0 ∧ m = 0) ∨ ∃ g o cap, v = .slice (some ⟨g, o, none⟩) m cap ∧ m ≤ cap ∧ g < w.heap.size ∧ ∀ j, j < m → w.cell? ⟨g, o + j, none⟩ = some (.bool (U.testBit j))
theorem LeftIs.own {w : World} {base : Nat} {v : Value} {n V : Nat} (h : w.ownsRow base 4 1 v n (bools V n)) : LeftIs w v n V := by
  rcases h.2 with h2 | ⟨g, cap, cur, rfl, _, hg, hr, _⟩
  · exact .inl h2
  · exact .inr ⟨g, 0, cap, rfl, hr, lt_of_block hg, fun j hj => by rw [Nat.zero_add, h.cellAt j (by omega), bools_get _ _ _ hj]⟩
theorem LeftIs.shape {w : World} {v : Value} {m U : Nat} (h : LeftIs w v m U) : ∃ ao cap, v = .slice ao m cap ∧ m ≤ cap := by
  rcases h with ⟨rfl, rfl⟩ | ⟨g, o, cap, rfl, hc, _⟩
  · exact ⟨_, _, rfl, Nat.le_refl _⟩
  · exact ⟨_, _, rfl, hc⟩
theorem LeftIs.bro {w w' : World} {v : Value} {m U : Nat} (h : LeftIs w v m U) (k : More w w') : BRo w' v m U := by
  rcases h with ⟨rfl, rfl⟩ | ⟨g, o, cap, rfl, _, hg, hc⟩
  · exact .inl ⟨rfl, _, _, rfl⟩
  · exact .inr ⟨g, o, cap, rfl, fun j hj => (k.cell (p := ⟨g, o + j, none⟩) hg).trans (hc j hj)⟩
theorem LeftIs.cut {w : World} {ao : Option Addr} {m cap U t : Nat} (h : LeftIs w (.slice ao m cap) m U) (ht : t ≤ m) :
    LeftIs w (.slice (if cap = t then ao else ao.map (·.add t)) (m - t) (cap - t)) (m - t) (U / 2 ^ t) := by
  rcases h with ⟨h, rfl⟩ | ⟨g, o, cap', h, hc, hg, hb⟩
  · simp at h
    obtain ⟨rfl, rfl⟩ := h
    obtain rfl : t = 0 := by omega
    exact .inl ⟨by simp, by simp⟩
  · simp at h
    obtain ⟨rfl, rfl⟩ := h
    by_cases hct : cap = t
    · rw [if_pos hct]
      exact .inr ⟨g, o, _, rfl, by omega, hg, fun j hj => by omega⟩
    · rw [if_neg hct]
      refine .inr ⟨g, o + t, cap - t, by simp [Addr.add], by omega, hg, fun j hj => ?_⟩
      rw [Nat.testBit_div_two_pow, Nat.add_assoc, Nat.add_comm j t]
      exact hb (t + j) (by omega)

set_option maxHeartbeats 1600000 in
set_option maxRecDepth 1000000 in
theorem streamReads (vp v : Value) (L K : Nat) (pW : Nat → Nat) (pN : Nat → Int) (cK : Nat → Int) (cX : Nat → Nat) (cN : Nat → Int) (w : World) (hp : PRd w vp L pW pN) (hL : L ≤ 9223372036854775807) (h : CRd w v K cK cX cN) (hK : K ≤ 9223372036854775807) (hT : TabIn w) :
    Calls Tryd.prog 4 #[vp, v] w fun e w' => e = .returned (.bool true) ∧ Below w.heap.size w w' := by
  have hnot : ∀ (x : Bool) (w : World), (Op.unary .not (.bool x)).run Tryd.prog w = .ok (.bool (!x)) w := fun _ _ => rfl
  have hl := live_true w hT
  by_cases hbig : 60 < L ∨ 60 < K
  · obtain ⟨ap, capp, rfl⟩ := hp.shape
    obtain ⟨ao, cap, rfl⟩ := h.shape
    clear h hT hp
    rcases (show 60 < L ∨ (¬ 60 < L ∧ 60 < K) by omega) with h1 | ⟨h1, h2⟩
    all_goals
      clear hbig
      go_enter Tryd.func4, Tryd.ntmps4
      go_wp2_with (go_at_call 7; refine hl.mono ?_; rintro e w' ⟨rfl, hm⟩)
      go_ret
      exact ⟨rfl, hm⟩
  have hb := built vp L pW pN w hp (by omega)
  have h0 : 0 < w.heap.size := World.block_lt_of_cell? w ⟨0, 0, none⟩ (hT 0 (by omega))
  have HT := Hid.mk (fun (w' : World) (h : Below w.heap.size w w') => hT.below h h0)
  obtain ⟨ap, capp, rfl⟩ := hp.shape
  obtain ⟨ao, cap, rfl⟩ := h.shape
  have HH := Hid.mk h
  have hL60 : L ≤ 60 := by omega
  have hK60 : K ≤ 60 := by omega
  clear h hT h0 hp hl hbig
  go_enter Tryd.func4, Tryd.ntmps4
  go_wp2_with (first
    | (go_at_call 16; refine hb.mono ?_; rintro e w1 ⟨b, vo, V, n, rfl, _, hn, hrow, hown, hbel⟩; have H1 := Hid.mk (And.intro hrow (And.intro (LeftIs.own hown) hbel)); have HV := Hid.mk hrow.fit; clear hrow hown hbel hb; obtain ⟨ao1, cap1, rfl, hc1⟩ := H1.out.2.1.shape)
    | (go_at_call 17; refine (rd_open _ V n w1 (RowHas.row H1.out.1)).mono ?_; rintro e w2 ⟨rb, rfl, ha, hm⟩; have H2 := Hid.mk (And.intro ha hm); clear ha hm))
  go_loopw [6, 9, 10] (fun vl bad i wr => ∃ k a er : Nat, k ≤ K ∧ a ≤ n ∧ i = .int .i64 k ∧ bad = .int .i64 er ∧ Hid (LeftIs w1 vl (n - a) (V / 2 ^ a)) ∧ Hid (RdAt wr w1.heap.size rb V n a er ∧ More w1 wr)) (fun _ _ i _ => K - (intOf i).toNat)
  case atStart => exact ⟨0, 0, 0, Nat.zero_le _, Nat.zero_le _, rfl, rfl, Hid.mk (by simpa using H1.out.2.1), Hid.mk H2.out⟩
  case round =>
    obtain ⟨k, a, er, hk, han, rfl, rfl, HL, HR⟩ := hrel
    have HB := Hid.mk (Below.trans H1.out.2.2 (HR.out.2.mono H1.out.2.2.size))
    have hnb : n ≤ 1000000 := by omega
    obtain ⟨M, hM⟩ : ∃ M, n - a = M := ⟨_, rfl⟩
    obtain ⟨U, hUe⟩ : ∃ U, V / 2 ^ a = U := ⟨_, rfl⟩
    have hleft := HL.out
    rw [hM, hUe] at hleft
    have hU : U < 2 ^ M := by
      rw [← hUe, ← hM, Nat.div_lt_iff_lt_mul (Nat.two_pow_pos _), ← Nat.pow_add, show n - a + a = n by omega]
      exact HV.out
    obtain ⟨aL, capL, rfl, hcL⟩ := hleft.shape
    clear HL
    by_cases hkK : k < K
    · obtain ⟨g, o, rfl, hcode⟩ := HH.out.at hkK
      unfold CodeIn at hcode
      obtain ⟨v', t, er', hq⟩ : ∃ v' t er', rd (cK k) U M (cN k) = (v', t, er') := ⟨_, _, _, rfl⟩
      obtain ⟨ht, hte⟩ := rd_ok hq
      have href := fun w' (hm : More w1 w') => ref_read (.slice aL M capL) M U v' t er' (knd (cK k)) (cN k) w' (hleft.bro hm) hU (by omega) (by rw [rd_knd]; exact hq)
      have hread := fun w' (h : RdAt w' w1.heap.size rb V n a 0) (hT : TabIn w') => law_read w1.heap.size rb V n a v' t er' (cX k) (cK k) (cN k) w' h hT (by rw [hUe, hM]; exact hq)
      have hstop := fun er w' (h : RdAt w' w1.heap.size rb V n a er) (hE : er ≠ 0) => law_stop w1.heap.size rb V n a er (cX k) (cK k) (cN k) w' h hE
      have hkind := fun w' => law_kind (cK k) (cN k) (cX k) w'
      have hcut : LeftIs w1 (.slice (if capL = t then aL else aL.map (·.add t)) (M - t) (capL - t)) (n - (a + t)) (V / 2 ^ (a + t)) := by
        rw [show n - (a + t) = M - t by omega, show V / 2 ^ (a + t) = U / 2 ^ t by rw [← hUe, Nat.div_div_eq_div_mul, Nat.pow_add]]
        exact hleft.cut ht
      have hlf := fun E w' (h : RdAt w' w1.heap.size rb V n (a + t) E) => rdr_left w1.heap.size rb V n (a + t) E w' h
      have hlf0 := fun E w' (h : RdAt w' w1.heap.size rb V n a E) => rdr_left w1.heap.size rb V n a E w' h
      rw [show n - (a + t) = M - t by omega] at hlf
      rw [hM] at hlf0
      unfold ReadV at href
      unfold Got at hread
      generalize cK k = kd at *
      generalize cX k = x at *
      generalize cN k = N at *
      generalize knd kd = kn at *
      have HC := Hid.mk hcode
      have HU := Hid.mk (And.intro (And.intro hM hUe) (And.intro hte (And.intro hcut hleft)))
      obtain ⟨c0, c1, c2⟩ := HC.out wr HB.out
      have hat : a + t ≤ n := by omega
      clear hcode hq hU hte HH hM hUe hcut hleft
      by_cases hE : er = 0
      · subst hE
        have hS0 : More wr wr ∧ wr.cell? ⟨g, o + k * 3, none⟩ = some (.int .i64 kd) ∧ wr.cell? ⟨g, o + k * 3 + 1, none⟩ = some (.int .u64 x) ∧ wr.cell? ⟨g, o + k * 3 + 2, none⟩ = some (.int .i64 N) :=
          ⟨Below.refl _ _, HC.out wr HB.out⟩
        clear hstop c0 c1 c2 hlf0
        go_wp2_with fail
        go_region_held (fun w' => More wr w' ∧ w'.cell? ⟨g, o + k * 3, none⟩ = some (.int .i64 kd) ∧ w'.cell? ⟨g, o + k * 3 + 1, none⟩ = some (.int .u64 x) ∧ w'.cell? ⟨g, o + k * 3 + 2, none⟩ = some (.int .i64 N))
          (first | assumption | exact held_code (by assumption) (by assumption) | exact held_code (by assumption) (More.drewN _ 1))
          (first
            | (go_at_call 9; refine (hkind _).mono ?_; rintro e w3 ⟨rfl, hw3⟩; have hm3 : More _ w3 := (by rw [hw3]; exact more_box _ _); clear hw3)
            | (go_at_call 18; refine (href _ (More.trans HR.out.2 (And.left (by assumption)))).mono ?_; rintro e w4 ⟨rfl, hw4⟩; subst w4))
        obtain ⟨hm, d0, d1, d2⟩ : More wr w3 ∧ w3.cell? ⟨g, o + k * 3, none⟩ = some (.int .i64 kd) ∧ w3.cell? ⟨g, o + k * 3 + 1, none⟩ = some (.int .u64 x) ∧ w3.cell? ⟨g, o + k * 3 + 2, none⟩ = some (.int .i64 N) := by assumption
        have H4 := Hid.mk (And.intro (HR.out.1.more hm) (And.intro (More.trans HR.out.2 hm) (Below.trans HB.out (hm.mono HB.out.size))))
        clear hm hm3 hS0 href hkind HR
        have hcut := HU.out.2.2.1
        by_cases hct : capL = t
        all_goals
          first | rw [if_pos hct] at hcut | rw [if_neg hct] at hcut
          have HQ := Hid.mk hcut
          clear hcut
          go_wp2_with (first
            | (go_at_call 19; refine (hread w3 H4.out.1 (HT.out w3 H4.out.2.2)).mono ?_; rintro e w5 ⟨rfl, ha, hb⟩; have H5 := Hid.mk (And.intro ha (Below.trans H4.out.2.1 hb)); clear ha hb)
            | (go_at_call 20; refine (hlf er' w5 H5.out.1).mono ?_; rintro e w6 ⟨rfl, m6, hw6⟩; have hm6 := More.drewN w5 m6; rw [← hw6] at hm6; clear hw6; have H6 := Hid.mk (And.intro (H5.out.1.more hm6) (More.trans H5.out.2 hm6)); clear hm6)
            | (go_at_call 21; refine (rdr_err _ rb V n (a + t) er' w6 H6.out.1).mono ?_; rintro e w' ⟨rfl, hw'⟩; subst w'))
          refine ⟨⟨k + 1, a + t, er', by omega, hat, by go_num, rfl, Hid.mk ?_, H6⟩, by simp [intOf]; omega⟩
          have := HQ.out
          first | exact this | (rw [show capL - t = 0 by omega] at this; exact this)
      · have hne : ((er : Int) == 0) = false := by simp; omega
        have T1 := Hid.mk hE
        clear href hkind hread hlf hE
        go_wp2_with (first
          | (go_at_call 19; refine (hstop er wr HR.out.1 T1.out).mono ?_; rintro e w5 ⟨rfl, hb⟩; have H5 := Hid.mk (And.intro (HR.out.1.more hb) (More.trans HR.out.2 hb)); clear hb)
          | (go_at_call 20; refine (hlf0 er w5 H5.out.1).mono ?_; rintro e w6 ⟨rfl, m6, hw6⟩; have hm6 := More.drewN w5 m6; rw [← hw6] at hm6; clear hw6; have H6 := Hid.mk (And.intro (H5.out.1.more hm6) (More.trans H5.out.2 hm6)); clear hm6)
          | (go_at_call 21; refine (rdr_err _ rb V n a er w6 H6.out.1).mono ?_; rintro e w' ⟨rfl, hw'⟩; subst w'))
        refine ⟨⟨k + 1, a, er, by omega, han, by go_num, rfl, Hid.mk ?_, H6⟩, by simp [intOf]; omega⟩
        rw [HU.out.1.1, HU.out.1.2]
        exact HU.out.2.2.2
    · obtain rfl : k = K := by omega
      have hend := fun w' (h : RdAt w' w1.heap.size rb V n a er) => rdr_end w1.heap.size rb V n a er w' h
      have hlv := fun w' (h : Below w.heap.size w w') => live_true w' (HT.out w' h)
      clear hleft hU hUe HH
      by_cases hE : er = 0
      · subst hE
        by_cases hM0 : 0 < M
        · rw [show endE n a 0 = 3 by simp [endE]; omega] at hend
          clear hM
          go_wp2_with (first
            | (go_at_call 22; refine (hend wr HR.out.1).mono ?_; rintro e w5 ⟨rfl, m5, hw5⟩; have hm5 := More.drewN wr m5; rw [← hw5] at hm5; clear hw5; have H5 := Hid.mk (Below.trans HB.out (hm5.mono HB.out.size)); clear hm5)
            | (go_at_call 7; refine (hlv w5 H5.out).mono ?_; rintro e w6 ⟨rfl, hb⟩; have H6 := Hid.mk (Below.trans H5.out (hb.mono H5.out.size)); clear hb))
          go_ret
          exact ⟨rfl, H6.out⟩
        · rw [show endE n a 0 = 0 by simp [endE]; omega] at hend
          obtain rfl : M = 0 := by omega
          clear hM
          go_wp2_with (first
            | (go_at_call 22; refine (hend wr HR.out.1).mono ?_; rintro e w5 ⟨rfl, m5, hw5⟩; have hm5 := More.drewN wr m5; rw [← hw5] at hm5; clear hw5; have H5 := Hid.mk (Below.trans HB.out (hm5.mono HB.out.size)); clear hm5)
            | (go_at_call 7; refine (hlv w5 H5.out).mono ?_; rintro e w6 ⟨rfl, hb⟩; have H6 := Hid.mk (Below.trans H5.out (hb.mono H5.out.size)); clear hb))
          go_ret
          exact ⟨rfl, H6.out⟩
      · rw [show endE n a er = er by simp [endE, hE]] at hend
        have hne : ((er : Int) == 0) = false := by simp; omega
        clear hM hE
        go_wp2_with (first
          | (go_at_call 22; refine (hend wr HR.out.1).mono ?_; rintro e w5 ⟨rfl, m5, hw5⟩; have hm5 := More.drewN wr m5; rw [← hw5] at hm5; clear hw5; have H5 := Hid.mk (Below.trans HB.out (hm5.mono HB.out.size)); clear hm5)
          | (go_at_call 7; refine (hlv w5 H5.out).mono ?_; rintro e w6 ⟨rfl, hb⟩; have H6 := Hid.mk (Below.trans H5.out (hb.mono H5.out.size)); clear hb))
        go_ret
        exact ⟨rfl, H6.out⟩

end Go.Proofs.YtgcjbkcfcklcfaaDoor
