/-
  seqbin's GetSeq: what any bytes are as a sequence, or what is wrong.
  What is put is got as it was, plainly.
-/
import Derived.Test.YtbjgbigalfhnjaaGreatDoorSbSeq
import Derived.Test.YtbjgbigalfhnjaaGreatDoorSbPut
namespace Go.Proofs.YtbjgbigalfhnjaaGreatDoor
open Go.RowKit

/-- How many bits n numbers have, the last one being u. -/
def gBits (n u : Nat) : Nat := lowN n u * n + (n + u / 2 ^ lowN n u)
/-- The numbers that bits have. -/
def gF (n u V i : Nat) : Nat := gN V (lowN n u) n (n + u / 2 ^ lowN n u) i
/-- Bits that are a sequence's, of n numbers with the last one u. -/
structure Good (n u V : Nat) : Prop where
  fit : V < 2 ^ gBits n u
  all : n ≤ rk (V / 2 ^ (lowN n u * n)) (n + u / 2 ^ lowN n u)
  last : n ≠ 0 → gF n u V (n - 1) = u
  wrong : wrg (fun i => (gF n u V i : Int)) n = 0
theorem Good.climbs {n u V : Nat} (h : Good n u V) : Climbs (gF n u V) n := (wrg_climbs _ n h.wrong).2
theorem Good.lst {n u V : Nat} (h : Good n u V) (hn : n ≠ 0) : lst (gF n u V) n = u := by rw [lst_pos _ hn, h.last hn]
theorem Good.wdt {n u V : Nat} (h : Good n u V) (hn : n ≠ 0) : wdt (gF n u V) n = lowN n u := by unfold Go.Proofs.YtbjgbigalfhnjaaGreatDoor.wdt; rw [h.lst hn]
theorem Good.same {n u V : Nat} (h : Good n u V) (hn : n ≠ 0) : seqV (gF n u V) (lowN n u) n = V ∧ seqN (gF n u V) (lowN n u) n = gBits n u :=
  got_same V (lowN n u) n u hn h.all (h.last hn) h.climbs h.fit
/-- Which numbers are read of bytes: how many, the last one, the row's bytes, how many are taken, what is wrong. -/
structure Reads (R : List UInt8) (E n u : Nat) (v : List UInt8) (t1 er1 t2 er2 t3 er : Nat) : Prop where
  one : st E 0 (bnd R 1048576 8) = (n, t1, er1)
  two : (n = 0 ∧ u = 0 ∧ t2 = 0 ∧ er2 = er1) ∨ (n ≠ 0 ∧ st er1 0 (bnd (R.drop t1) 1099511627776 8) = (u, t2, er2))
  three : st er2 [] (rdR (R.drop (t1 + t2)) (nby (gBits n u) : Nat)) = (v, t3, er)
theorem reads_any (R : List UInt8) (E : Nat) : ∃ n u v t1 er1 t2 er2 t3 er, Reads R E n u v t1 er1 t2 er2 t3 er := by
  obtain ⟨⟨n, t1, er1⟩, h1⟩ : ∃ x, st E 0 (bnd R 1048576 8) = x := ⟨_, rfl⟩
  by_cases hn : n = 0
  · exact ⟨n, 0, _, t1, er1, 0, er1, _, _, h1, .inl ⟨hn, rfl, rfl, rfl⟩, rfl⟩
  · exact ⟨n, _, _, t1, er1, _, _, _, _, h1, .inr ⟨hn, rfl⟩, rfl⟩
theorem st_err {α : Type} {E : Nat} {z v : α} {r : α × Nat × Nat} {t er : Nat} (h : st E z r = (v, t, er)) (h0 : er = 0) : E = 0 ∧ r = (v, t, 0) := by
  by_cases hE : E = 0
  · subst hE; rw [st_ok] at h; rw [h, h0]; exact ⟨rfl, rfl⟩
  · rw [st_no hE] at h; simp at h; omega
theorem st_bnd {E v t er : Nat} {l : List UInt8} {N : Int} (h : st E 0 (bnd l N 8) = (v, t, er)) : t ≤ l.length ∧ (er ≠ 0 → v = 0 ∧ t = 0) ∧ (v = 0 ∨ (v : Int) ≤ N) ∧ (v ≠ 0 → er = 0 ∧ E = 0) := by
  by_cases hE : E = 0
  · subst hE
    rw [st_ok] at h
    have := bnd_ok h
    exact ⟨this.1, this.2.1, this.2.2.2.2, fun hv => ⟨Classical.byContradiction fun h => hv (this.2.1 h).1, rfl⟩⟩
  · rw [st_no hE] at h
    simp at h
    exact ⟨by omega, fun _ => ⟨by omega, by omega⟩, .inl (by omega), fun hv => absurd h.1.symm hv⟩
theorem rdR_nat {l v : List UInt8} {n t er : Nat} (h : rdR l (n : Nat) = (v, t, er)) (h0 : er = 0) : v.length = n ∧ n ≤ l.length ∧ t = n ∧ v = l.take n := by
  subst h0
  unfold rdR at h
  rw [if_neg (by omega), Int.toNat_natCast] at h
  unfold cutR at h
  split at h
  · simp at h
  · simp at h
    rename_i hlt
    rw [← h.1, List.length_take]
    refine ⟨by omega, by omega, by omega, rfl⟩
/-- What is read is short, so numbers are few. -/
theorem Reads.few {R v : List UInt8} {E n u t1 er1 t2 er2 t3 er : Nat} (h : Reads R E n u v t1 er1 t2 er2 t3 er) (h0 : er = 0) : er2 = 0 ∧ v.length = nby (gBits n u) ∧ gBits n u ≤ 8 * R.length ∧ t3 = nby (gBits n u) ∧ v = (R.drop (t1 + t2)).take t3 := by
  obtain ⟨h1, h2⟩ := st_err h.three h0
  obtain ⟨h3, h4, h5, h6⟩ := rdR_nat h2 rfl
  rw [List.length_drop] at h4
  have := nby_le (gBits n u)
  exact ⟨h1, h3, by omega, h5, by rw [h5]; exact h6⟩

/-- What GetSeq tells, and what becomes of the reader. -/
structure GotSeq (w : World) (base b : Nat) (l : List UInt8) (a n u : Nat) (v : List UInt8) (t er : Nat) (e : Ending) (w' : World) : Prop where
  keeps : KeepsT RT base w w'
  what : (er ≠ 0 ∧ e = .returned (.pointer none) ∧ RdAt w' base b l (a + t) er) ∨
    (er = 0 ∧ Good n u (ofB v) ∧ RdAt w' base b l (a + t) 0 ∧ ∃ s, e = .returned (.pointer (some ⟨s, 0, none⟩)) ∧ SeqAt w' w.heap.size s (gF n u (ofB v)) n) ∨
    (er = 0 ∧ ¬ Good n u (ofB v) ∧ e = .returned (.pointer none) ∧ RdAt w' base b l (a + t) 3)

theorem zrd_none (w : World) (ao : Option Addr) (cap : Nat) (g : Nat → Int) : ZRd w (.slice ao 0 cap) 0 g := .inl ⟨rfl, _, _, rfl⟩
theorem own_ints_at {w : World} {base K : Nat} {v : Value} {f : Nat → Nat} (h : w.ownsRow base 3 1 v K (ints f K)) (hK : 0 < K) : ∃ g cap, v = .slice (some ⟨g, 0, none⟩) K cap ∧ (∀ j, j < K → w.cell? ⟨g, j, none⟩ = some (.int .i64 (f j : Nat))) ∧ K ≤ cap := by
  rcases h.2 with ⟨rfl, hn⟩ | ⟨g, cap, cur, rfl, _, hg, hle, _⟩
  · omega
  · exact ⟨g, cap, rfl, fun j hj => by rw [h.cellAt j (by omega), ints_get _ _ _ hj], hle⟩
theorem SeqAt.lower {w : World} {base base' s : Nat} {f : Nat → Nat} {n : Nat} (h : SeqAt w base s f n) (hb : base' ≤ base) : SeqAt w base' s f n := by
  obtain ⟨p, d, h1, h2, h3⟩ := h.mem
  exact ⟨h.climbs, h.num, p, d, h1, h2.lower hb, h3.lower hb⟩

theorem getRow_err (base b a E n t er : Nat) (z : Int) (v l : List UInt8) (w : World) (h : RdAt w base b l a E) (hz : max z 0 = (n : Int)) (hn : n ≤ 9223372036854775807) (hq : st E [] (rdR (l.drop a) (nby n : Nat)) = (v, t, er)) (h0 : er ≠ 0) :
    Calls Tryz.prog 57 #[.pointer (some ⟨b, 0, none⟩), .int .i64 z] w fun e w' => e = .returned (.pointer none) ∧ RdAt w' base b l (a + t) er ∧ KeepsT RT base w w' :=
  (sb_getRow base b a E n t er z v l w h hz hn hq).mono fun _ _ hg => by
    rcases hg.what with ⟨_, h1, h2⟩ | ⟨h1, _⟩ | ⟨h1, _⟩
    · exact ⟨h1, h2, hg.keeps⟩
    · exact absurd h1 h0
    · exact absurd h1 h0
theorem getRow_row (base b a E n t : Nat) (z : Int) (v l : List UInt8) (w : World) (h : RdAt w base b l a E) (hz : max z 0 = (n : Int)) (hn : n ≤ 9223372036854775807) (hq : st E [] (rdR (l.drop a) (nby n : Nat)) = (v, t, 0)) (hf : ofB v < 2 ^ n) :
    Calls Tryz.prog 57 #[.pointer (some ⟨b, 0, none⟩), .int .i64 z] w fun e w' => ∃ r, e = .returned (.pointer (some ⟨r, 0, none⟩)) ∧ RowAt w' w.heap.size r (ofB v) n ∧ RdAt w' base b l (a + t) 0 ∧ KeepsT RT base w w' :=
  (sb_getRow base b a E n t 0 z v l w h hz hn hq).mono fun _ _ hg => by
    rcases hg.what with ⟨h1, _⟩ | ⟨_, _, h2, r, h3, h4⟩ | ⟨_, h1, _⟩
    · exact absurd rfl h1
    · exact ⟨r, h3, h4, h2, hg.keeps⟩
    · exact absurd hf h1
theorem getRow_form (base b a E n t : Nat) (z : Int) (v l : List UInt8) (w : World) (h : RdAt w base b l a E) (hz : max z 0 = (n : Int)) (hn : n ≤ 9223372036854775807) (hq : st E [] (rdR (l.drop a) (nby n : Nat)) = (v, t, 0)) (hf : ¬ ofB v < 2 ^ n) :
    Calls Tryz.prog 57 #[.pointer (some ⟨b, 0, none⟩), .int .i64 z] w fun e w' => e = .returned (.pointer none) ∧ RdAt w' base b l (a + t) 3 ∧ KeepsT RT base w w' :=
  (sb_getRow base b a E n t 0 z v l w h hz hn hq).mono fun _ _ hg => by
    rcases hg.what with ⟨h1, _⟩ | ⟨_, h1, _⟩ | ⟨_, _, h2, h3⟩
    · exact absurd rfl h1
    · exact absurd h1 hf
    · exact ⟨h2, h3, hg.keeps⟩

set_option maxHeartbeats 1600000 in
set_option maxRecDepth 1000000 in
theorem sb_getSeq_none (base b a E u t1 er1 t2 er2 t3 er : Nat) (v l : List UInt8) (w : World) (h : RdAt w base b l a E) (hT : TabIn w) (hb0 : 0 < base) (hR : Reads (l.drop a) E 0 u v t1 er1 t2 er2 t3 er) :
    Calls Tryz.prog 21 #[.pointer (some ⟨b, 0, none⟩)] w fun e w' => GotSeq w base b l a 0 u v (t1 + t2 + t3) er e w' := by
  have h1 := rdr_upto base b a t1 er1 E 0 1048576 l w h (by decide) hR.one
  rw [Int.natCast_zero] at h1
  obtain ⟨rfl, rfl, rfl⟩ : u = 0 ∧ t2 = 0 ∧ er2 = er1 := by
    rcases hR.two with h | h
    · exact h.2
    · exact absurd rfl h.1
  have hlow := fun w => el_low 0 0 (by decide) w
  rw [show lowZ 0 0 = 0 by decide, Int.natCast_zero] at hlow
  have h3 := hR.three
  rw [show gBits 0 0 = 0 by decide, Nat.add_zero, List.drop_drop] at h3
  by_cases h0 : er = 0
  · subst h0
    have hv : v = [] := List.eq_nil_of_length_eq_zero (by have := (hR.few rfl).2.1; rw [this]; decide)
    have hgood : Good 0 0 (ofB v) := ⟨by rw [hv]; decide, Nat.zero_le _, fun h => absurd rfl h, rfl⟩
    have hrow := fun w1 (h : RdAt w1 base b l (a + t1) er2) => getRow_row base b (a + t1) er2 0 t3 0 v l w1 h (by decide) (by decide) h3 (by rw [hv]; decide)
    have hnum := fun r w1 (h : RowRd w1 r (ofB v) 0) hT => sb_numbers r (ofB v) 0 0 0 w1 h hT (by decide) (by decide) (by decide) (by decide)
    rw [show gC (ofB v) 0 0 0 = 0 by unfold gC; omega, Int.natCast_zero] at hnum
    have hnew := fun vv w1 (h : ZRd w1 vv 0 (fun j => (gF 0 0 (ofB v) j : Int))) => el_new vv 0 (gF 0 0 (ofB v)) w1 h hgood.climbs (by decide)
    have HH := Hid.mk (And.intro hT (And.intro hgood h))
    clear hR h3 hv hgood hT h
    go_enter Tryz.func21, Tryz.ntmps21
    go_wp2_with (first
      | (go_at_call 56; refine h1.mono ?_; rintro e w1 ⟨rfl, hr1, hk1⟩; have H1 := Hid.mk (And.intro hr1 hk1); clear hr1 hk1 h1)
      | (go_at_call 50; refine (hlow _).mono ?_; rintro e w' ⟨rfl, hw⟩; subst w')
      | (go_at_call 57; refine (hrow w1 H1.out.1).mono ?_; rintro e w2 ⟨r, rfl, hr2, hd2, hk2⟩; have H2 := Hid.mk (And.intro hr2 (And.intro hd2 (H1.out.2.trans hk2))); clear hr2 hd2 hk2)
      | (go_at_call 58; refine (hnum r w2 H2.out.1.rd (H2.out.2.2.tab HH.out.1 hb0)).mono ?_; rintro e w3 ⟨vv, rfl, hv3, hm3⟩; obtain ⟨av, cv, rfl⟩ := shape_of hv3; have H3 := Hid.mk (And.intro (zrd_none w3 av cv (fun j => (gF 0 0 (ofB v) j : Int))) hm3); clear hv3 hm3)
      | (go_at_call 20; refine (hnew _ w3 H3.out.1).mono ?_; rintro e w4 ⟨s, rfl, hs4, hm4⟩; have H4 := Hid.mk (And.intro hs4 hm4); clear hs4 hm4))
    go_ret
    have hm := More.trans H3.out.2 H4.out.2
    exact ⟨H2.out.2.2.trans (KeepsT.more hm H2.out.2.1.sz), .inr (.inl ⟨rfl, HH.out.2.1, by have := H2.out.2.1.more hm; rw [Nat.add_assoc] at this; exact this, s, rfl, H4.out.1.lower (Nat.le_trans H2.out.2.2.below.size H3.out.2.size)⟩)⟩
  · have hrow := fun w1 (h : RdAt w1 base b l (a + t1) er2) => getRow_err base b (a + t1) er2 0 t3 er 0 v l w1 h (by decide) (by decide) h3 h0
    clear hR h3 hT h
    go_enter Tryz.func21, Tryz.ntmps21
    go_wp2_with (first
      | (go_at_call 56; refine h1.mono ?_; rintro e w1 ⟨rfl, hr1, hk1⟩; have H1 := Hid.mk (And.intro hr1 hk1); clear hr1 hk1 h1)
      | (go_at_call 50; refine (hlow _).mono ?_; rintro e w' ⟨rfl, hw⟩; subst w')
      | (go_at_call 57; refine (hrow w1 H1.out.1).mono ?_; rintro e w2 ⟨rfl, hd2, hk2⟩; have H2 := Hid.mk (And.intro hd2 (H1.out.2.trans hk2)); clear hd2 hk2))
    go_ret
    exact ⟨H2.out.2, .inl ⟨h0, rfl, by have := H2.out.1; rw [Nat.add_assoc] at this; exact this⟩⟩

/-- What is told of n numbers, n not 0, once their row is read. -/
theorem sb_some_pre (n u : Nat) (hn : n ≤ 1048576) (hu : u ≤ 1099511627776) (D B : Nat) (hD : lowN n u = D) (hB : gBits n u = B) :
    ∃ S Q, D * n = S ∧ u / 2 ^ D = Q ∧ S + (n + Q) = B ∧ D ≤ 40 ∧ S ≤ 41943040 ∧ Q ≤ 1099511627776 ∧ (n : Int) * (D : Int) = (S : Int) ∧ (u : Int) / 2 ^ D = (Q : Int) := by
  have hD40 : D ≤ 40 := by rw [← hD]; exact low_le n u hu
  refine ⟨_, _, rfl, rfl, by rw [← hB]; unfold gBits; rw [hD], hD40, Nat.mul_le_mul hD40 hn, Nat.le_trans (Nat.div_le_self _ _) hu, by rw [Int.natCast_mul, Int.mul_comm], by rw [Int.natCast_ediv, Int.natCast_pow]; rfl⟩

set_option maxHeartbeats 1600000 in
set_option maxRecDepth 1000000 in
theorem sb_getSeq_some (base b a E n u t1 er1 t2 er2 t3 er : Nat) (v l : List UInt8) (w : World) (h : RdAt w base b l a E) (hT : TabIn w) (hb0 : 0 < base) (hn0 : n ≠ 0) (hfew : er = 0 → n ≤ 4000 ∧ gBits n u ≤ 1000000) (hR : Reads (l.drop a) E n u v t1 er1 t2 er2 t3 er) :
    Calls Tryz.prog 21 #[.pointer (some ⟨b, 0, none⟩)] w fun e w' => GotSeq w base b l a n u v (t1 + t2 + t3) er e w' := by
  have h1 := rdr_upto base b a t1 er1 E n 1048576 l w h (by decide) hR.one
  have hb1 := st_bnd hR.one
  have htwo : st er1 0 (bnd ((l.drop a).drop t1) 1099511627776 8) = (u, t2, er2) := by
    rcases hR.two with h | h
    · exact absurd h.1 hn0
    · exact h.2
  have hb2 := st_bnd htwo
  rw [List.drop_drop] at htwo
  have h2 := fun w1 (h : RdAt w1 base b l (a + t1) er1) => rdr_upto base b (a + t1) t2 er2 er1 u 1099511627776 l w1 h (by decide) htwo
  have hnb : n ≤ 1048576 := by omega
  have hub : u ≤ 1099511627776 := by omega
  obtain ⟨D, hD⟩ : ∃ D, lowN n u = D := ⟨_, rfl⟩
  obtain ⟨B, hB⟩ : ∃ B, gBits n u = B := ⟨_, rfl⟩
  obtain ⟨S, Q, hS, hQ, hSB, hD40, hSb, hQb, hmul, hsh⟩ := sb_some_pre n u hnb hub D B hD hB
  have hlow := fun w => el_low (n : Int) (u : Int) (by omega) w
  rw [lowZ_nat, hD] at hlow
  have h3 := hR.three
  rw [hB, List.drop_drop, ← Nat.add_assoc] at h3
  have hn0' : (0 : Int) < (n : Int) := by omega
  have hBb : B ≤ 1099554619392 := by omega
  obtain ⟨S1, hS1⟩ : ∃ S1, S + n = S1 := ⟨_, rfl⟩
  have e1 : (S : Int) + (n : Int) = (S1 : Int) := by omega
  have e2 : (S1 : Int) + (Q : Int) = (B : Int) := by omega
  have hwS : IntKind.i64.wrap (S : Int) = S := by rw [IntKind.wrap_i64]; omega
  have hwS1 : IntKind.i64.wrap (S1 : Int) = S1 := by rw [IntKind.wrap_i64]; omega
  have hwB : IntKind.i64.wrap (B : Int) = B := by rw [IntKind.wrap_i64]; omega
  by_cases h0 : er = 0
  · subst h0
    obtain ⟨hz2, hvl, hBl, ht3, _⟩ := hR.few rfl
    have hB2 := (hfew rfl).2
    have hn4 := (hfew rfl).1
    rw [hB] at hBl hB2
    by_cases hfit : ofB v < 2 ^ B
    · have hrow := fun w1 (h : RdAt w1 base b l (a + t1 + t2) er2) => getRow_row base b (a + t1 + t2) er2 B t3 (B : Int) v l w1 h (by omega) (by omega) h3 hfit
      have hM2 : (n + Q) * 2 ^ D ≤ 8796093022208 := by
        have h1 := low_mul n u (by omega) (by omega)
        rw [hD] at h1
        have h2 := Nat.div_mul_le_self u (2 ^ D)
        rw [hQ] at h2
        rw [Nat.add_mul]; omega
      have hnum := fun r w1 (h : RowRd w1 r (ofB v) B) hT => sb_numbers r (ofB v) n D (n + Q) w1 (by rw [hS, hSB]; exact h) hT (by omega) hD40 (by omega) hM2
      obtain ⟨C, hC⟩ : ∃ C, gC (ofB v) D n (n + Q) = C := ⟨_, rfl⟩
      have hgf : gN (ofB v) D n (n + Q) = gF n u (ofB v) := by funext i; unfold gF; rw [hD, hQ]
      rw [hC, hgf] at hnum
      have hCm : C = min n (rk (ofB v / 2 ^ S) (n + Q)) := by rw [← hC]; unfold gC; rw [hS]
      have hfb : ∀ i, i < C → gF n u (ofB v) i ≤ 8796093022208 := fun i hi => by
        have := gN_le (ofB v) D n u i (by rw [hS, hQ]; omega)
        rw [hQ, hgf] at this
        omega
      have hgood : Good n u (ofB v) ↔ (C = n ∧ gF n u (ofB v) (n - 1) = u ∧ wrg (fun i => (gF n u (ofB v) i : Int)) n = 0) := by
        constructor
        · rintro ⟨g1, g2, g3, g4⟩
          rw [hD, hS, hQ] at g2
          exact ⟨by omega, g3 hn0, g4⟩
        · rintro ⟨g2, g3, g4⟩
          exact ⟨by rw [hB]; exact hfit, by rw [hD, hS, hQ]; omega, fun _ => g3, g4⟩
      obtain ⟨F, hF⟩ : ∃ F, gF n u (ofB v) = F := ⟨_, rfl⟩
      have HF := Hid.mk hF
      rw [hF] at hnum hfb hgood
      have HH := Hid.mk (And.intro hT (And.intro h (And.intro hgood hCm)))
      clear hT h hR h3 hfit hgood hCm htwo hb1 hb2 hvl hBl ht3 hM2 hC hgf hF hB hD hS hQ hSB hz2
      by_cases hCn : C = n
      · subst hCn
        obtain ⟨Z, hZ⟩ : ∃ Z, F (C - 1) = Z := ⟨_, rfl⟩
        have e5 : (C : Int) - 1 = ((C - 1 : Nat) : Int) := by omega
        obtain ⟨C1, hC1⟩ : ∃ C1, C - 1 = C1 := ⟨_, rfl⟩
        rw [hC1] at e5 hZ
        have hC1b : C1 < C := by omega
        by_cases hZu : Z = u
        · subst hZu
          by_cases hwr : wrg (fun i => (F i : Int)) C = 0
          · have hnew := fun vv w1 (h : ZRd w1 vv C (fun j => (F j : Int))) => el_new vv C F w1 h (wrg_climbs _ C hwr).2 (by omega)
            have HW := Hid.mk (And.intro hwr (And.intro hZ hC1))
            clear hwr hZ hC1
            go_enter Tryz.func21, Tryz.ntmps21
            go_wp2_with (first
              | (go_at_call 56; refine h1.mono ?_; rintro e w1 ⟨rfl, hr1, hk1⟩; have H1 := Hid.mk (And.intro hr1 hk1); clear hr1 hk1 h1)
              | (go_at_call 56; refine (h2 w1 H1.out.1).mono ?_; rintro e w2 ⟨rfl, hr2, hk2⟩; have H2 := Hid.mk (And.intro hr2 (H1.out.2.trans hk2)); clear hr2 hk2 h2)
              | (go_at_call 50; refine (hlow _).mono ?_; rintro e w' ⟨rfl, hw⟩; subst w')
              | (go_at_call 57; refine (hrow w2 H2.out.1).mono ?_; rintro e w3 ⟨r, rfl, hr3, hd3, hk3⟩; have H3 := Hid.mk (And.intro hr3 (And.intro hd3 (H2.out.2.trans hk3))); clear hr3 hd3 hk3)
              | (go_at_call 58; refine (hnum r w3 H3.out.1.rd (H3.out.2.2.tab HH.out.1 hb0)).mono ?_; rintro e w4 ⟨vv, rfl, hv4, hm4⟩; obtain ⟨gv, cv, rfl, hcv, _⟩ := own_ints_at hv4 (by omega); have hc1 := hcv C1 hC1b; rw [HW.out.2.1] at hc1; have H4 := Hid.mk (And.intro (zrd_own hv4) hm4); clear hv4 hm4 hcv)
              | (go_at_call 20; refine (hnew _ w4 H4.out.1).mono ?_; rintro e w5 ⟨s, rfl, hs5, hm5⟩; have H5 := Hid.mk (And.intro hs5 hm5); clear hs5 hm5))
            go_ret
            have hm := More.trans H4.out.2 H5.out.2
            rw [← HF.out] at HH
            exact ⟨H3.out.2.2.trans (KeepsT.more hm H3.out.2.1.sz), .inr (.inl ⟨rfl, HH.out.2.2.1.2 ⟨by first | trivial | rfl, by rw [HW.out.2.2, HF.out]; exact HW.out.2.1, by rw [HF.out]; exact HW.out.1⟩, by have := H3.out.2.1.more hm; rw [Nat.add_assoc, Nat.add_assoc] at this; rw [Nat.add_assoc]; exact this, s, rfl, by rw [HF.out]; exact H5.out.1.lower (Nat.le_trans H3.out.2.2.below.size H4.out.2.size)⟩)⟩
          · have hwr0 := wrg_range (fun i => (F i : Int)) C
            have hnew := fun vv w1 (h : ZRd w1 vv C (fun j => (F j : Int))) => el_new_bad vv C (fun j => (F j : Int)) w1 h (by omega) hwr
            obtain ⟨G, hG⟩ : ∃ G, wrg (fun i => (F i : Int)) C = G := ⟨_, rfl⟩
            rw [hG] at hnew hwr
            have HW := Hid.mk (And.intro hwr (And.intro hZ (And.intro hC1 hG)))
            clear hZ hC1 hG hwr0
            go_enter Tryz.func21, Tryz.ntmps21
            go_wp2_with (first
              | (go_at_call 56; refine h1.mono ?_; rintro e w1 ⟨rfl, hr1, hk1⟩; have H1 := Hid.mk (And.intro hr1 hk1); clear hr1 hk1 h1)
              | (go_at_call 56; refine (h2 w1 H1.out.1).mono ?_; rintro e w2 ⟨rfl, hr2, hk2⟩; have H2 := Hid.mk (And.intro hr2 (H1.out.2.trans hk2)); clear hr2 hk2 h2)
              | (go_at_call 50; refine (hlow _).mono ?_; rintro e w' ⟨rfl, hw⟩; subst w')
              | (go_at_call 57; refine (hrow w2 H2.out.1).mono ?_; rintro e w3 ⟨r, rfl, hr3, hd3, hk3⟩; have H3 := Hid.mk (And.intro hr3 (And.intro hd3 (H2.out.2.trans hk3))); clear hr3 hd3 hk3)
              | (go_at_call 58; refine (hnum r w3 H3.out.1.rd (H3.out.2.2.tab HH.out.1 hb0)).mono ?_; rintro e w4 ⟨vv, rfl, hv4, hm4⟩; obtain ⟨gv, cv, rfl, hcv, _⟩ := own_ints_at hv4 (by omega); have hc1 := hcv C1 hC1b; rw [HW.out.2.1] at hc1; have H4 := Hid.mk (And.intro (zrd_own hv4) hm4); clear hv4 hm4 hcv)
              | (go_at_call 20; refine (hnew _ w4 H4.out.1).mono ?_; rintro e w' ⟨rfl, hw⟩; subst w')
              | (go_at_call 27; refine (rd_fail base b (a + t1 + t2 + t3) 0 3 l w4 (H3.out.2.1.more H4.out.2)).mono ?_; rintro e w5 ⟨rfl, hr5, hk5⟩; have H5 := Hid.mk (And.intro hr5 hk5); clear hr5 hk5))
            go_ret
            rw [← HF.out] at HH
            exact ⟨H3.out.2.2.trans ((KeepsT.more H4.out.2 H3.out.2.1.sz).trans H5.out.2), .inr (.inr ⟨rfl, fun hg => HW.out.1 (by have := (HH.out.2.2.1.1 hg).2.2; rw [HF.out, HW.out.2.2.2] at this; exact this), rfl, by have := H5.out.1; rw [Nat.add_assoc, Nat.add_assoc] at this; rw [Nat.add_assoc]; exact this⟩)⟩
        · have hZu' : ¬ (Z : Int) = (u : Int) := by omega
          have HW := Hid.mk (And.intro hZu (And.intro hZ hC1))
          clear hZ hC1 hZu
          go_enter Tryz.func21, Tryz.ntmps21
          go_wp2_with (first
            | (go_at_call 56; refine h1.mono ?_; rintro e w1 ⟨rfl, hr1, hk1⟩; have H1 := Hid.mk (And.intro hr1 hk1); clear hr1 hk1 h1)
            | (go_at_call 56; refine (h2 w1 H1.out.1).mono ?_; rintro e w2 ⟨rfl, hr2, hk2⟩; have H2 := Hid.mk (And.intro hr2 (H1.out.2.trans hk2)); clear hr2 hk2 h2)
            | (go_at_call 50; refine (hlow _).mono ?_; rintro e w' ⟨rfl, hw⟩; subst w')
            | (go_at_call 57; refine (hrow w2 H2.out.1).mono ?_; rintro e w3 ⟨r, rfl, hr3, hd3, hk3⟩; have H3 := Hid.mk (And.intro hr3 (And.intro hd3 (H2.out.2.trans hk3))); clear hr3 hd3 hk3)
            | (go_at_call 58; refine (hnum r w3 H3.out.1.rd (H3.out.2.2.tab HH.out.1 hb0)).mono ?_; rintro e w4 ⟨vv, rfl, hv4, hm4⟩; obtain ⟨gv, cv, rfl, hcv, _⟩ := own_ints_at hv4 (by omega); have hc1 := hcv C1 hC1b; rw [HW.out.2.1] at hc1; have H4 := Hid.mk (And.intro (zrd_own hv4) hm4); clear hv4 hm4 hcv)
            | (go_at_call 27; refine (rd_fail base b (a + t1 + t2 + t3) 0 3 l w4 (H3.out.2.1.more H4.out.2)).mono ?_; rintro e w5 ⟨rfl, hr5, hk5⟩; have H5 := Hid.mk (And.intro hr5 hk5); clear hr5 hk5))
          go_ret
          rw [← HF.out] at HH
          exact ⟨H3.out.2.2.trans ((KeepsT.more H4.out.2 H3.out.2.1.sz).trans H5.out.2), .inr (.inr ⟨rfl, fun hg => HW.out.1 (by have := (HH.out.2.2.1.1 hg).2.1; rw [HF.out, HW.out.2.2, HW.out.2.1] at this; exact this), rfl, by have := H5.out.1; rw [Nat.add_assoc, Nat.add_assoc] at this; rw [Nat.add_assoc]; exact this⟩)⟩
      · have hCn' : ¬ (C : Int) = (n : Int) := by omega
        go_enter Tryz.func21, Tryz.ntmps21
        go_wp2_with (first
          | (go_at_call 56; refine h1.mono ?_; rintro e w1 ⟨rfl, hr1, hk1⟩; have H1 := Hid.mk (And.intro hr1 hk1); clear hr1 hk1 h1)
          | (go_at_call 56; refine (h2 w1 H1.out.1).mono ?_; rintro e w2 ⟨rfl, hr2, hk2⟩; have H2 := Hid.mk (And.intro hr2 (H1.out.2.trans hk2)); clear hr2 hk2 h2)
          | (go_at_call 50; refine (hlow _).mono ?_; rintro e w' ⟨rfl, hw⟩; subst w')
          | (go_at_call 57; refine (hrow w2 H2.out.1).mono ?_; rintro e w3 ⟨r, rfl, hr3, hd3, hk3⟩; have H3 := Hid.mk (And.intro hr3 (And.intro hd3 (H2.out.2.trans hk3))); clear hr3 hd3 hk3)
          | (go_at_call 58; refine (hnum r w3 H3.out.1.rd (H3.out.2.2.tab HH.out.1 hb0)).mono ?_; rintro e w4 ⟨vv, rfl, hv4, hm4⟩; obtain ⟨av, cv, rfl⟩ := shape_of hv4; have H4 := Hid.mk (And.intro trivial hm4); clear hv4 hm4)
          | (go_at_call 27; refine (rd_fail base b (a + t1 + t2 + t3) 0 3 l w4 (H3.out.2.1.more H4.out.2)).mono ?_; rintro e w5 ⟨rfl, hr5, hk5⟩; have H5 := Hid.mk (And.intro hr5 hk5); clear hr5 hk5))
        go_ret
        rw [← HF.out] at HH
        exact ⟨H3.out.2.2.trans ((KeepsT.more H4.out.2 H3.out.2.1.sz).trans H5.out.2), .inr (.inr ⟨rfl, fun hg => hCn (HH.out.2.2.1.1 hg).1, rfl, by have := H5.out.1; rw [Nat.add_assoc, Nat.add_assoc] at this; rw [Nat.add_assoc]; exact this⟩)⟩
    · have hrow := fun w1 (h : RdAt w1 base b l (a + t1 + t2) er2) => getRow_form base b (a + t1 + t2) er2 B t3 (B : Int) v l w1 h (by omega) (by omega) h3 hfit
      have HH := Hid.mk (show ¬ Good n u (ofB v) from fun hg => hfit (by have := hg.fit; rw [hB] at this; exact this))
      clear hT h hR h3 hfit htwo hb1 hb2 hvl hBl ht3 hB hD hS hQ hSB hz2
      go_enter Tryz.func21, Tryz.ntmps21
      go_wp2_with (first
        | (go_at_call 56; refine h1.mono ?_; rintro e w1 ⟨rfl, hr1, hk1⟩; have H1 := Hid.mk (And.intro hr1 hk1); clear hr1 hk1 h1)
        | (go_at_call 56; refine (h2 w1 H1.out.1).mono ?_; rintro e w2 ⟨rfl, hr2, hk2⟩; have H2 := Hid.mk (And.intro hr2 (H1.out.2.trans hk2)); clear hr2 hk2 h2)
        | (go_at_call 50; refine (hlow _).mono ?_; rintro e w' ⟨rfl, hw⟩; subst w')
        | (go_at_call 57; refine (hrow w2 H2.out.1).mono ?_; rintro e w3 ⟨rfl, hd3, hk3⟩; have H3 := Hid.mk (And.intro hd3 (H2.out.2.trans hk3)); clear hd3 hk3))
      go_ret
      exact ⟨H3.out.2, .inr (.inr ⟨rfl, HH.out, rfl, by have := H3.out.1; rw [Nat.add_assoc, Nat.add_assoc] at this; rw [Nat.add_assoc]; exact this⟩)⟩
  · have hrow := fun w1 (h : RdAt w1 base b l (a + t1 + t2) er2) => getRow_err base b (a + t1 + t2) er2 B t3 er (B : Int) v l w1 h (by omega) (by omega) h3 h0
    clear hT h hR h3 htwo hb1 hb2 hB hD hS hQ hSB
    go_enter Tryz.func21, Tryz.ntmps21
    go_wp2_with (first
      | (go_at_call 56; refine h1.mono ?_; rintro e w1 ⟨rfl, hr1, hk1⟩; have H1 := Hid.mk (And.intro hr1 hk1); clear hr1 hk1 h1)
      | (go_at_call 56; refine (h2 w1 H1.out.1).mono ?_; rintro e w2 ⟨rfl, hr2, hk2⟩; have H2 := Hid.mk (And.intro hr2 (H1.out.2.trans hk2)); clear hr2 hk2 h2)
      | (go_at_call 50; refine (hlow _).mono ?_; rintro e w' ⟨rfl, hw⟩; subst w')
      | (go_at_call 57; refine (hrow w2 H2.out.1).mono ?_; rintro e w3 ⟨rfl, hd3, hk3⟩; have H3 := Hid.mk (And.intro hd3 (H2.out.2.trans hk3)); clear hd3 hk3))
    go_ret
    exact ⟨H3.out.2, .inl ⟨h0, rfl, by have := H3.out.1; rw [Nat.add_assoc, Nat.add_assoc] at this; rw [Nat.add_assoc]; exact this⟩⟩

theorem sb_getSeq (base b a E n u t1 er1 t2 er2 t3 er : Nat) (v l : List UInt8) (w : World) (h : RdAt w base b l a E) (hT : TabIn w) (hb0 : 0 < base) (hfew : er = 0 → n ≤ 4000 ∧ gBits n u ≤ 1000000) (hR : Reads (l.drop a) E n u v t1 er1 t2 er2 t3 er) :
    Calls Tryz.prog 21 #[.pointer (some ⟨b, 0, none⟩)] w fun e w' => GotSeq w base b l a n u v (t1 + t2 + t3) er e w' := by
  by_cases hn : n = 0
  · subst hn; exact sb_getSeq_none base b a E u t1 er1 t2 er2 t3 er v l w h hT hb0 hR
  · exact sb_getSeq_some base b a E n u t1 er1 t2 er2 t3 er v l w h hT hb0 hn hfew hR

end Go.Proofs.YtbjgbigalfhnjaaGreatDoor

namespace Go.Proofs.YtbjgbigalfhnjaaGreatDoor
open Go.RowKit

theorem wrg_none {f : Nat → Nat} {n : Nat} (h : Climbs f n) : ∀ k, k ≤ n → wrg (fun i => (f i : Int)) k = 0
  | 0, _ => rfl
  | k + 1, hk => by
    have h1 := h.top k hk
    rw [wrg, wrg_none h k (by omega), if_neg (by simp), if_neg (by omega)]
    by_cases h0 : 0 < k
    · have h2 := h.up (k - 1) (by omega)
      rw [show k - 1 + 1 = k by omega] at h2
      rw [if_neg (by omega)]
    · rw [if_neg (fun h => h0 h.1)]
theorem bnd_num {v : Nat} {M : Int} (hv : (v : Int) ≤ M) (hv64 : v < 18446744073709551616) (r : List UInt8) : bnd (num v ++ r) M 8 = (v, (num v).length, 0) := by
  unfold bnd
  rw [fst_num hv64]
  simp
  omega
theorem rdR_all (l r : List UInt8) : rdR (l ++ r) (l.length : Nat) = (l, l.length, 0) := by
  unfold rdR
  rw [if_neg (by omega), Int.toNat_natCast]
  unfold cutR
  rw [if_neg (by rw [List.length_append]; omega)]
  simp
theorem gF_congr_wrg {f g : Nat → Nat} {n : Nat} (h : ∀ i, i < n → g i = f i) : ∀ k, k ≤ n → wrg (fun i => (g i : Int)) k = wrg (fun i => (f i : Int)) k
  | 0, _ => rfl
  | k + 1, hk => by
    have h1 := h k hk
    have h2 : 0 < k → g (k - 1) = f (k - 1) := fun _ => h (k - 1) (by omega)
    rw [wrg, wrg, gF_congr_wrg h k (by omega), h1]
    by_cases h0 : 0 < k
    · rw [h2 h0]
    · simp [h0]

/-- The bytes of a sequence's row. -/
def seqR (f : Nat → Nat) (n : Nat) : List UInt8 := if n = 0 then [] else rby (seqV f (wdt f n) n) (seqN f (wdt f n) n)
theorem bits_of {f : Nat → Nat} {n : Nat} (h : Climbs f n) (hn : n ≠ 0) : gBits n (lst f n) = seqN f (wdt f n) n := by
  have h1 := (got_back h hn (wdt f n)).1
  unfold gBits seqN
  rw [show lowN n (lst f n) = wdt f n from rfl, h1, lst_pos f hn]
/-- What is put is read. -/
theorem reads_back {f : Nat → Nat} {n : Nat} (h : Climbs f n) (hn4 : n ≤ 4000) (s : List UInt8) : ∃ t1 t2 t3, Reads (seqB f n ++ s) 0 n (lst f n) (seqR f n) t1 0 t2 0 t3 0 ∧ t1 + t2 + t3 = (seqB f n).length := by
  have hl := lst_le h
  by_cases hn : n = 0
  · subst hn
    refine ⟨(num 0).length, 0, 0, ⟨?_, .inl ⟨rfl, rfl, rfl, rfl⟩, ?_⟩, by rw [seqB_none, Nat.add_zero]⟩
    · rw [st_ok, seqB_none]
      exact bnd_num (by decide) (by decide) s
    · rw [st_ok]
      have := rdR_all [] ((seqB f 0 ++ s).drop ((num 0).length + 0))
      rw [List.nil_append] at this
      rw [show seqR f 0 = [] from if_pos rfl, show gBits 0 (lst f 0) = 0 from (by decide : gBits 0 0 = 0)]
      exact this
  · have hb := bits_of h hn
    refine ⟨(num n).length, (num (lst f n)).length, nby (gBits n (lst f n)), ⟨?_, .inr ⟨hn, ?_⟩, ?_⟩, ?_⟩
    · rw [st_ok, seqB_some f hn, List.append_assoc]
      exact bnd_num (by omega) (by omega) _
    · rw [st_ok, seqB_some f hn, List.append_assoc, List.drop_left, List.append_assoc]
      exact bnd_num (by omega) (by omega) _
    · rw [st_ok, seqB_some f hn, List.append_assoc, ← List.drop_drop, List.drop_left, List.append_assoc, List.drop_left, hb]
      have := rdR_all (rby (seqV f (wdt f n) n) (seqN f (wdt f n) n)) s
      rw [rby_len] at this
      rw [this]
      unfold seqR
      rw [if_neg hn]
    · rw [seqB_some f hn, hb]
      simp only [List.length_append, rby_len]
      omega
theorem good_back {f : Nat → Nat} {n : Nat} (h : Climbs f n) : Good n (lst f n) (ofB (seqR f n)) ∧ ∀ i, i < n → gF n (lst f n) (ofB (seqR f n)) i = f i := by
  by_cases hn : n = 0
  · subst hn
    exact ⟨⟨by unfold seqR; rw [if_pos rfl]; exact (by decide : ofB [] < 2 ^ gBits 0 0), Nat.zero_le _, fun h => absurd rfl h, rfl⟩, fun i hi => by omega⟩
  · have hb := bits_of h hn
    obtain ⟨h1, h2, h3⟩ := got_back h hn (wdt f n)
    have hV : ofB (seqR f n) = seqV f (wdt f n) n := by
      unfold seqR
      rw [if_neg hn]
      exact ofB_rby (seqV_lt h _)
    rw [hV]
    have hg : ∀ i, i < n → gF n (lst f n) (seqV f (wdt f n) n) i = f i := fun i hi => by
      unfold gF
      rw [show lowN n (lst f n) = wdt f n from rfl, lst_pos f hn]
      exact h3 i hi
    refine ⟨⟨by rw [hb]; exact seqV_lt h _, ?_, fun _ => by rw [hg (n - 1) (by omega), lst_pos f hn], by rw [gF_congr_wrg hg n (Nat.le_refl _)]; exact wrg_none h n (Nat.le_refl _)⟩, hg⟩
    rw [show lowN n (lst f n) = wdt f n from rfl, lst_pos f hn]
    exact h2
theorem few_back {f : Nat → Nat} {n : Nat} (h : Climbs f n) (hn4 : n ≤ 4000) : n ≤ 4000 ∧ gBits n (lst f n) ≤ 1000000 := by
  refine ⟨hn4, ?_⟩
  by_cases hn : n = 0
  · subst hn; exact (by decide : gBits 0 0 ≤ 1000000)
  · rw [bits_of h hn]
    have := seqN_le h
    omega
theorem bnd_put {l : List UInt8} {N : Int} {a t : Nat} (hb : bnd l N 8 = (a, t, 0)) : num a = l.take t := by
  unfold bnd at hb
  split at hb
  · simp at hb; omega
  · split at hb
    · simp at hb
    · simp at hb
      exact num_fst (by rw [← hb.1, ← hb.2]; rename_i h3 _; simp at h3; rw [← h3])
/-- What is got is put in the same bytes. -/
theorem put_got {R v : List UInt8} {E n u t1 er1 t2 er2 t3 : Nat} (h : Reads R E n u v t1 er1 t2 er2 t3 0) (hg : Good n u (ofB v)) : seqB (gF n u (ofB v)) n = R.take (t1 + t2 + t3) := by
  obtain ⟨h2z, hvl, _, ht3, hv⟩ := h.few rfl
  by_cases hn : n = 0
  · subst hn
    rcases h.two with ⟨_, rfl, rfl, rfl⟩ | ⟨h1, _⟩
    · obtain ⟨rfl, h1⟩ := st_err h.one h2z
      have : t3 = 0 := by rw [ht3]; decide
      subst this
      rw [seqB_none, Nat.add_zero]
      exact bnd_put h1
    · exact absurd rfl h1
  · rcases h.two with ⟨h1, _⟩ | ⟨_, htwo⟩
    · exact absurd h1 hn
    · obtain ⟨he1, hb2⟩ := st_err htwo h2z
      obtain ⟨hE, hb1⟩ := st_err h.one he1
      rw [seqB_some _ hn, hg.lst hn, hg.wdt hn, (hg.same hn).1, (hg.same hn).2, rby_ofB hvl, bnd_put hb1, bnd_put hb2, hv]
      rw [List.take_add, List.take_add, List.append_assoc]

/-- A sequence's bytes, whatever stands behind, are got as it was. -/
theorem sb_getBack {f : Nat → Nat} {n : Nat} (hC : Climbs f n) (hn4 : n ≤ 4000) (base b : Nat) (s l : List UInt8) (w : World) (hl : l = seqB f n ++ s) (h : RdAt w base b l 0 0) (hT : TabIn w) (hb0 : 0 < base) :
    Calls Tryz.prog 21 #[.pointer (some ⟨b, 0, none⟩)] w fun e w' => ∃ q g, e = .returned (.pointer (some ⟨q, 0, none⟩)) ∧ SeqAt w' w.heap.size q g n ∧ (∀ i, i < n → g i = f i) ∧ RdAt w' base b l (seqB f n).length 0 ∧ KeepsT RT base w w' := by
  obtain ⟨t1, t2, t3, hR, htt⟩ := reads_back hC hn4 s
  rw [← hl] at hR
  have hgd := good_back hC
  refine (sb_getSeq base b 0 0 n (lst f n) t1 0 t2 0 t3 0 (seqR f n) l w h hT hb0 (fun _ => few_back hC hn4) (by rw [List.drop_zero]; exact hR)).mono fun e w' hg => ?_
  rcases hg.what with ⟨h1, _⟩ | ⟨_, _, h2, q, h3, h4⟩ | ⟨_, h1, _⟩
  · exact absurd rfl h1
  · rw [Nat.zero_add, htt] at h2
    exact ⟨q, _, h3, h4, hgd.2, h2, hg.keeps⟩
  · exact absurd hgd.1 h1

end Go.Proofs.YtbjgbigalfhnjaaGreatDoor
