/-
  rankdir's Len, Rank, Zeros, Marks; of nil too.
-/
import Derived.Test.YtmnkbdkhpnokgaaDir
namespace Go.Proofs.Ytmnkbdkhpnokgaa
open Go.RowKit

/-- A slice of K ints is read. -/
def IRd (w : World) (v : Value) (K : Nat) (f : Nat → Nat) : Prop :=
  (K = 0 ∧ ∃ ao cap, v = .slice ao 0 cap) ∨ ∃ g cap, v = .slice (some ⟨g, 0, none⟩) K cap ∧ g < w.heap.size ∧ ∀ j, j < K → w.cell? ⟨g, j, none⟩ = some (.int .i64 (f j : Nat))
theorem ird_of_own {w : World} {base : Nat} {v : Value} {K : Nat} {f : Nat → Nat} (h : w.ownsRow base 3 1 v K (ints f K)) : IRd w v K f := by
  rcases h.2 with ⟨rfl, hn⟩ | ⟨g, cap, cur, rfl, _, hg, _⟩
  · exact .inl ⟨hn, _, _, rfl⟩
  · exact .inr ⟨g, cap, rfl, lt_of_block hg, fun j hj => by rw [h.cellAt j (by omega), ints_get _ _ _ hj]⟩
theorem IRd.shape {w : World} {v : Value} {K : Nat} {f : Nat → Nat} (h : IRd w v K f) : ∃ ao cap, v = .slice ao K cap := by
  rcases h with ⟨rfl, ao, cap, rfl⟩ | ⟨g, cap, rfl, _⟩
  · exact ⟨_, _, rfl⟩
  · exact ⟨_, _, rfl⟩
theorem IRd.more {w w' : World} {v : Value} {K : Nat} {f : Nat → Nat} (h : IRd w v K f) (k : More w w') : IRd w' v K f := by
  rcases h with h | ⟨g, cap, rfl, hg, hc⟩
  · exact .inl h
  · exact .inr ⟨g, cap, rfl, Nat.lt_of_lt_of_le hg k.size, fun j hj => (k.cell (p := ⟨g, j, none⟩) hg).trans (hc j hj)⟩

/-- A directory as it is read. -/
structure DirRd (w : World) (d V n : Nat) : Prop where
  fit : V < 2 ^ n
  len : n ≤ 1099511627776
  c2 : w.cell? ⟨d, 2, none⟩ = some (.int .i64 n)
  c0 : ∃ v, w.cell? ⟨d, 0, none⟩ = some v ∧ Rd w v (nw n) (wd V)
  c1 : ∃ m, w.cell? ⟨d, 1, none⟩ = some m ∧ IRd w m (nm n + 1) (mk V n)

theorem DirAt.rd {w : World} {base d V n : Nat} (h : DirAt w base d V n) : DirRd w d V n := by
  obtain ⟨v, _, m, hb, hv, hm⟩ := h.mem
  obtain ⟨c0, c1, c2, _⟩ := cells3 hb
  exact ⟨h.fit, h.len, c2, ⟨v, c0, rd_of_own hv⟩, ⟨m, c1, ird_of_own hm⟩⟩
theorem DirRd.more {w w' : World} {d V n : Nat} (h : DirRd w d V n) (k : More w w') : DirRd w' d V n := by
  obtain ⟨v, c0, hv⟩ := h.c0
  obtain ⟨m, c1, hm⟩ := h.c1
  have hd := World.block_lt_of_cell? w _ h.c2
  exact ⟨h.fit, h.len, (k.cell hd).trans h.c2, ⟨v, (k.cell (p := ⟨d, 0, none⟩) hd).trans c0, hv.more k⟩, ⟨m, (k.cell (p := ⟨d, 1, none⟩) hd).trans c1, hm.more k⟩⟩

theorem dir_len (d n : Nat) (w : World) (h : w.cell? ⟨d, 2, none⟩ = some (.int .i64 n)) : Calls Try.prog 11 #[.pointer (some ⟨d, 0, none⟩)] w fun e w' => e = .returned (.int .i64 n) ∧ w' = w := by
  go_enter Try.func11, Try.ntmps11
  go_wp2
  go_ret
  exact ⟨rfl, rfl⟩
theorem none_len (w : World) : Calls Try.prog 11 #[.pointer none] w fun e w' => e = .returned (.int .i64 0) ∧ w' = w := by
  go_enter Try.func11, Try.ntmps11
  go_wp2
  go_ret
  exact ⟨rfl, rfl⟩

/-- The number from 0 to n that is nearest to i. -/
def near (i : Int) (n : Nat) : Nat := min i.toNat n
theorem near_eq (i : Int) (n : Nat) : min (max i 0) (n : Int) = (near i n : Nat) := by unfold near; omega
theorem near_le (i : Int) (n : Nat) : near i n ≤ n := Nat.min_le_right _ _

theorem within (p : Value) (n : Nat) (i : Int) (w : World) (h : Calls Try.prog 11 #[p] w fun e w' => e = .returned (.int .i64 n) ∧ w' = w) :
    Calls Try.prog 26 #[p, .int .i64 i] w fun e w' => e = .returned (.int .i64 (near i n : Nat)) ∧ w' = w := by
  have hn := near_eq i n
  go_enter Try.func26, Try.ntmps26
  go_wp2_with (go_at_call 11; refine h.mono ?_; rintro e w' ⟨rfl, hw'⟩; subst w')
  go_ret
  exact ⟨rfl, rfl⟩

theorem none_rank (i : Int) (w : World) : Calls Try.prog 12 #[.pointer none, .int .i64 i] w fun e w' => e = .returned (.int .i64 0) ∧ w' = w := by
  go_enter Try.func12, Try.ntmps12
  go_wp2_with (go_at_call 11; refine (none_len _).mono ?_; rintro e w' ⟨rfl, hw'⟩; subst w')
  go_ret
  exact ⟨rfl, rfl⟩

theorem Rd.at {w : World} {ao : Option Addr} {K cap : Nat} {f : Nat → Nat} (h : Rd w (.slice ao K cap) K f) (hK : 0 < K) : ∃ g o, ao = some ⟨g, o, none⟩ ∧ ∀ k, k < K → w.cell? ⟨g, o + k, none⟩ = some (.int .u64 (f k : Nat)) := by
  rcases h with ⟨rfl, _⟩ | ⟨g, o, cap', h, hg, hc⟩
  · omega
  · simp at h
    exact ⟨g, o, h.1, hc⟩
theorem IRd.at {w : World} {ao : Option Addr} {K cap : Nat} {f : Nat → Nat} (h : IRd w (.slice ao K cap) K f) (hK : 0 < K) : ∃ g, ao = some ⟨g, 0, none⟩ ∧ ∀ k, k < K → w.cell? ⟨g, k, none⟩ = some (.int .i64 (f k : Nat)) := by
  rcases h with ⟨rfl, _⟩ | ⟨g, cap', h, hg, hc⟩
  · omega
  · simp at h
    exact ⟨g, h.1, hc⟩

theorem rk_low (V q r : Nat) (hr : r ≤ 64) : rk V (64 * q + r) = rk V (64 * q) + rk (wd V q) r := by
  rw [rk_add]
  unfold wd
  rw [rk_mod _ _ _ hr]

set_option maxHeartbeats 800000 in
set_option maxRecDepth 1000000 in
theorem dir_rank (d V n : Nat) (i : Int) (w : World) (h : DirRd w d V n) :
    Calls Try.prog 12 #[.pointer (some ⟨d, 0, none⟩), .int .i64 i] w fun e w' => e = .returned (.int .i64 (rk V (near i n) : Nat)) ∧ w' = w := by
  by_cases h0 : n = 0
  · subst h0
    have hl := dir_len d 0 w h.c2
    have : rk V (near i 0) = 0 := by simp [near, rk]
    rw [this]
    clear h this
    go_enter Try.func12, Try.ntmps12
    go_wp2_with (go_at_call 11; refine hl.mono ?_; rintro e w' ⟨rfl, hw'⟩; subst w')
    go_ret
    exact ⟨rfl, rfl⟩
  have hl := dir_len d n w h.c2
  have hwi := within _ n i w hl
  have hle := near_le i n
  obtain ⟨j, hj⟩ : ∃ j, near i n = j := ⟨_, rfl⟩
  rw [hj] at hwi hle ⊢
  obtain ⟨v, c0, hv⟩ := h.c0
  obtain ⟨m, c1, hm⟩ := h.c1
  obtain ⟨av, cv, rfl⟩ := hv.shape
  obtain ⟨am, cm, rfl⟩ := hm.shape
  have hK : 0 < nw n := by unfold nw; omega
  obtain ⟨g, o, rfl, hg⟩ := hv.at hK
  obtain ⟨gm, rfl, hgm⟩ := hm.at (by omega)
  obtain ⟨K, hKe⟩ : ∃ K, nw n = K := ⟨_, rfl⟩
  obtain ⟨M, hMe⟩ : ∃ M, nm n = M := ⟨_, rfl⟩
  obtain ⟨s, hs⟩ : ∃ s, j / 512 = s := ⟨_, rfl⟩
  obtain ⟨q, hq⟩ : ∃ q, j / 64 = q := ⟨_, rfl⟩
  obtain ⟨r, hr⟩ : ∃ r, j % 64 = r := ⟨_, rfl⟩
  have hsM : s < M + 1 := by unfold nm nw at hMe; omega
  have hms := hgm s (by omega)
  rw [← hs, mk_span V n j hle, hs] at hms
  have hqK : q ≤ K ∧ (r ≠ 0 → q < K) := by unfold nw at hKe; omega
  have hcr : r ≠ 0 → w.cell? ⟨g, o + q, none⟩ = some (.int .u64 (wd V q : Nat)) := fun h => hg q (by rw [hKe]; exact hqK.2 h)
  have hs8 : 8 * s ≤ q := by omega
  have hrd : rk V (512 * s) ≤ 512 * s := rk_le _ _
  have hlen := h.len
  have H0 : Hid _ := And.intro hg (And.intro hKe (And.intro hs (And.intro hq (And.intro hr hqK))))
  rw [hKe] at c0
  rw [hMe] at c1
  have e1 : (j : Int) / 512 = s := by omega
  have e2 : (j : Int) / 64 = q := by omega
  have e3 : (j : Int) % 64 = r := by omega
  obtain ⟨F, hF⟩ : ∃ F, 8 * s = F := ⟨_, rfl⟩
  have e4 : (s : Int) * 8 = F := by omega
  rw [hF] at hs8
  have hsb : s ≤ 2147483648 := by omega
  have hqb : q ≤ 17179869184 := by omega
  have hn0 : ¬ n = 0 := h0
  have HF := Hid.mk hF
  clear h hv hm hg hgm hKe hMe hs hq hr hj h0 hF hqK
  generalize hO : rk V (512 * s) = O at *
  have HO := Hid.mk hO
  clear hO
  go_enter Try.func12, Try.ntmps12
  go_wp2_with (first
    | (go_at_call 11; refine hl.mono ?_; rintro e w' ⟨rfl, hw'⟩; subst w')
    | (go_at_call 26; refine hwi.mono ?_; rintro e w' ⟨rfl, hw'⟩; subst w'))
  go_loop [31, 7] (fun c p => ∃ k P : Nat, k ≤ q - F ∧ c = .int .i64 k ∧ p = .int .i64 P ∧ P ≤ 64 * (F + k) ∧ Hid (P = rk V (64 * (F + k)))) (fun c _ => q - F - (intOf c).toNat)
  case atStart => exact ⟨0, O, Nat.zero_le _, rfl, rfl, by have := HF.out; omega, Hid.mk (by rw [← HO.out, ← HF.out]; congr 1; omega)⟩
  case round =>
    obtain ⟨k, P, hk, rfl, rfl, hP, HP⟩ := hrel
    by_cases hkq : k < q - F
    · have hFK : F + k < K := by have := H0.out; omega
      have hck := H0.out.1 (F + k) (by have := H0.out; omega)
      have hr64 := rk_le (wd V (F + k)) 64
      clear hcr
      go_wp2_with (go_at_call 22; refine (ones _ (wd_lt V (F + k)) _).mono ?_; rintro e w' ⟨rfl, hw'⟩; subst w')
      refine ⟨⟨k + 1, P + rk (wd V (F + k)) 64, by omega, by go_num, by go_num, by omega, Hid.mk (by rw [HP.out, ← Nat.add_assoc, rk_wd])⟩, by simp [intOf]; omega⟩
    · have hkF : F + k = q := by omega
      rw [hkF] at HP hP
      by_cases hr0 : r = 0
      · subst hr0
        clear hcr
        go_wp2
        go_ret
        refine ⟨?_, rfl⟩
        rw [show j = 64 * q by have := H0.out; omega, ← HP.out]
        rfl
      · have hck := hcr hr0
        have hqK : q < K := H0.out.2.2.2.2.2.2 hr0
        have hr64 := rk_le (wd V q) r
        have hra : min 64 (r : Int).toNat = r := by have := H0.out; omega
        have hrk := fun w => lane_Rank (wd V q) (wd_lt V q) r w
        rw [hra] at hrk
        have hrb : r < 64 := by have := H0.out; omega
        have hr1 : ¬ (r : Int) = 0 := by omega
        clear hcr
        go_wp2_with (go_at_call 27; refine (hrk _).mono ?_; rintro e w' ⟨rfl, hw'⟩; subst w')
        go_ret
        refine ⟨?_, rfl⟩
        have e5 : j = 64 * q + r := by have := H0.out; omega
        have e6 := rk_low V q r (by omega)
        rw [← HP.out] at e6
        rw [e5, e6]
        simp

end Go.Proofs.Ytmnkbdkhpnokgaa
