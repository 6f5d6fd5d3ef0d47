/-
  elias: the low width, the low bits of a number, the low part and the high part.
  elias: the low part.
  elias: the high part.
-/
import Derived.Test.YtbjgbigalfhnjaaGreatDoorSet08
import Derived.Test.YtbjgbigalfhnjaaGreatDoorSet07
import Derived.Test.YtbjgbigalfhnjaaGreatDoorSet10
import Derived.OwnWalk
namespace Go.Proofs.YtbjgbigalfhnjaaGreatDoor
open Go.RowKit

/-- A slice of K ints, whatever they are, as it is read. -/
def ZRd (w : World) (v : Value) (K : Nat) (g : Nat → Int) : Prop :=
  (K = 0 ∧ ∃ ao cap, v = .slice ao 0 cap) ∨ ∃ b o cap, v = .slice (some ⟨b, o, none⟩) K cap ∧ b < w.heap.size ∧ ∀ j, j < K → w.cell? ⟨b, o + j, none⟩ = some (.int .i64 (g j))
theorem ZRd.shape {w : World} {v : Value} {K : Nat} {g : Nat → Int} (h : ZRd w v K g) : ∃ ao cap, v = .slice ao K cap := by
  rcases h with ⟨rfl, ao, cap, rfl⟩ | ⟨b, o, cap, rfl, _⟩
  · exact ⟨_, _, rfl⟩
  · exact ⟨_, _, rfl⟩
theorem ZRd.more {w w' : World} {v : Value} {K : Nat} {g : Nat → Int} (h : ZRd w v K g) (k : More w w') : ZRd w' v K g := by
  rcases h with h | ⟨b, o, cap, rfl, hb, hc⟩
  · exact .inl h
  · exact .inr ⟨b, o, cap, rfl, Nat.lt_of_lt_of_le hb k.size, fun j hj => (k.cell (p := ⟨b, o + j, none⟩) hb).trans (hc j hj)⟩
theorem ZRd.cell {w w' : World} {ao : Option Addr} {K cap : Nat} {g : Nat → Int} (h : ZRd w (.slice ao K cap) K g) (k : Nat) (hk : k < K) : ∃ b o, ao = some ⟨b, o, none⟩ ∧ (More w w' → w'.cell? ⟨b, o + k, none⟩ = some (.int .i64 (g k))) := by
  rcases h with ⟨rfl, _⟩ | ⟨b, o, cap', h, hb, hc⟩
  · omega
  · simp at h
    exact ⟨b, o, h.1, fun m => (m.cell (p := ⟨b, o + k, none⟩) hb).trans (hc k hk)⟩
theorem ZRd.congr {w : World} {v : Value} {K : Nat} {g g' : Nat → Int} (h : ZRd w v K g) (he : ∀ j, j < K → g j = g' j) : ZRd w v K g' := by
  rcases h with h | ⟨b, o, cap, rfl, hb, hc⟩
  · exact .inl h
  · exact .inr ⟨b, o, cap, rfl, hb, fun j hj => by rw [hc j hj, he j hj]⟩

/-- The low width of any n numbers, the last one being u. -/
def lowZ (n u : Int) : Nat := if n < 1 ∨ u < n then 0 else lowN n.toNat u.toNat
theorem lowZ_nat (n u : Nat) : lowZ n u = lowN n u := by
  unfold lowZ
  by_cases h : (n : Int) < 1 ∨ (u : Int) < n
  · rw [if_pos h]; unfold lowN; rw [if_pos (by omega)]
  · rw [if_neg h]; rfl

theorem el_low (n u : Int) (hu : u ≤ 9223372036854775807) (w : World) : Calls Tryz.prog 50 #[.int .i64 n, .int .i64 u] w fun e w' => e = .returned (.int .i64 (lowZ n u : Nat)) ∧ w' = w := by
  by_cases h1 : n < 1
  · rw [show lowZ n u = 0 by unfold lowZ; rw [if_pos (.inl h1)]]
    go_enter Tryz.func50, Tryz.ntmps50
    go_wp2
    go_ret
    exact ⟨rfl, rfl⟩
  by_cases h2 : u < n
  · rw [show lowZ n u = 0 by unfold lowZ; rw [if_pos (.inr h2)]]
    go_enter Tryz.func50, Tryz.ntmps50
    go_wp2
    go_ret
    exact ⟨rfl, rfl⟩
  obtain ⟨N, rfl⟩ := Int.eq_ofNat_of_zero_le (show 0 ≤ n by omega)
  obtain ⟨U, rfl⟩ := Int.eq_ofNat_of_zero_le (show 0 ≤ u by omega)
  obtain ⟨q, hq⟩ : ∃ q, U / N = q := ⟨_, rfl⟩
  have hqU : q ≤ U := by rw [← hq]; exact Nat.div_le_self _ _
  have hq0 : q ≠ 0 := by
    have := (Nat.le_div_iff_mul_le (show 0 < N by omega)).2 (show 1 * N ≤ U by omega)
    omega
  have e1 : (U : Int) / (N : Int) = q := by rw [← hq]; exact (Int.natCast_ediv U N).symm
  have e2 : (U : Int).tdiv N = q := by rw [Int.tdiv_eq_ediv_of_nonneg (by omega)]; exact e1
  have hb := bitLen_bounds q (by omega) hq0
  have hb64 := bitLen_le64 q (by omega)
  have hl : lowZ N U = Lib.bitLen q - 1 := by rw [lowZ_nat]; unfold lowN; rw [if_neg (by omega), hq]
  rw [hl]
  have hwd := fun w => lane_Width q (by omega) w
  obtain ⟨B, hB⟩ : ∃ B, Lib.bitLen q = B + 1 := ⟨Lib.bitLen q - 1, by omega⟩
  rw [hB] at hwd hb64 ⊢
  have hn0 : ¬ (N : Int) = 0 := by omega
  clear hb hB hl hq hq0
  go_enter Tryz.func50, Tryz.ntmps50
  go_wp2_with (go_at_call 74; refine (hwd _).mono ?_; rintro e w' ⟨rfl, hw⟩; subst w')
  go_ret
  exact ⟨by simp, rfl⟩

theorem el_lowBits (v d : Nat) (hv : v ≤ 1099511627777) (hd : d ≤ 64) (w : World) : Calls Tryz.prog 76 #[.int .i64 v, .int .i64 d] w fun e w' => e = .returned (.int .u64 (v % 2 ^ d : Nat)) ∧ ∃ m, w' = w.drewN m := by
  have hc := fun w => lane_Cut v (by omega) 0 d w
  rw [show sh v 0 = v by unfold sh; simp, show min 64 (d : Int).toNat = d by omega] at hc
  have hx : IntKind.u64.wrap (v : Int) = v := by rw [IntKind.wrap_u64]; omega
  generalize v % 2 ^ d = X at *
  go_enter Tryz.func76, Tryz.ntmps76
  go_wp2_with (go_at_call 68; refine (hc _).mono ?_; rintro e w' ⟨rfl, m, hw⟩; subst w')
  go_ret
  exact ⟨rfl, _, rfl⟩

end Go.Proofs.YtbjgbigalfhnjaaGreatDoor

namespace Go.Proofs.YtbjgbigalfhnjaaGreatDoor
open Go.RowKit

theorem RowAt.lower {w : World} {base base' b V n : Nat} (h : RowAt w base b V n) (hb : base' ≤ base) : RowAt w base' b V n := by
  obtain ⟨v, hv, hown⟩ := h.mem
  exact ⟨Nat.le_trans hb h.lo, h.fit, h.len, v, hv, own_lower hown hb⟩
theorem PackAt.lower {w : World} {base base' p V d n : Nat} (h : PackAt w base p V d n) (hb : base' ≤ base) : PackAt w base' p V d n := by
  obtain ⟨b, hp, hr⟩ := h.mem
  exact ⟨Nat.le_trans hb h.lo, h.wid, h.num, b, hp, hr.lower hb⟩
theorem SDirAt.lower {w : World} {base base' d V n : Nat} (h : SDirAt w base d V n) (hb : base' ≤ base) : SDirAt w base' d V n := by
  obtain ⟨v, m, hd, hv, hm⟩ := h.mem
  exact ⟨h.fit, h.len, Nat.le_trans hb h.lo, v, m, hd, own_lower hv hb, own_lower hm hb⟩

/-- The low bits of the first k numbers, noughts behind them. -/
def lowTo (f : Nat → Nat) (d k i : Nat) : Nat := if i < k then f i % 2 ^ d else 0
theorem lowTo_set (f : Nat → Nat) (d k K : Nat) : (u64s (lowTo f d k) K).set k (.int .u64 (f k % 2 ^ d : Nat)) = u64s (lowTo f d (k + 1)) K := by
  apply List.ext_getElem?
  intro i
  by_cases hi : i < K
  · rw [u64s_get _ _ _ hi, List.getElem?_set]
    by_cases h : k = i
    · subst h; simp [u64s_len, hi, lowTo]
    · rw [if_neg h, u64s_get _ _ _ hi]
      unfold lowTo
      by_cases h2 : i < k
      · rw [if_pos h2, if_pos (by omega)]
      · rw [if_neg h2, if_neg (by omega)]
  · rw [List.getElem?_eq_none (by simp [u64s_len]; omega), List.getElem?_eq_none (by simp [u64s_len]; omega)]
theorem lowTo_all (f : Nat → Nat) (d K : Nat) : u64s (lowTo f d K) K = u64s (fun i => f i % 2 ^ d) K := u64s_congr fun _ hi => if_pos hi
theorem lowTo_none (f : Nat → Nat) (d K : Nat) : (madeCells (Value.int IntKind.u64 0).cells (K * 1)).toList = u64s (lowTo f d 0) K := by
  apply List.ext_getElem?
  intro i
  by_cases hi : i < K
  · rw [u64s_get _ _ _ hi]
    simp [madeCells, lowTo, hi, Value.cells, Nat.mod_one]
  · rw [List.getElem?_eq_none (by simp [madeCells]; omega), List.getElem?_eq_none (by simp [u64s_len]; omega)]

set_option maxHeartbeats 800000 in
set_option maxRecDepth 1000000 in
theorem el_lowPart (v : Value) (K d : Nat) (f : Nat → Nat) (w : World) (h : ZRd w v K (fun j => (f j : Int))) (hf : ∀ j, j < K → f j ≤ 1099511627776) (hd : d ≤ 64) (hK : K ≤ 4000) :
    Calls Tryz.prog 53 #[v, .int .i64 d] w fun e w' => ∃ p, e = .returned (.pointer (some ⟨p, 0, none⟩)) ∧ PackAt w' w.heap.size p (packV d (fun i => f i % 2 ^ d) K) d K ∧ More w w' := by
  obtain ⟨ao, cap, rfl⟩ := h.shape
  obtain ⟨i0, hi, hz0, hz1, hz2⟩ := info_parts Tryz.info36
  have HH := Hid.mk (And.intro h hf)
  clear h hf
  go_enter Tryz.func53, Tryz.ntmps53
  go_wp2_with (refine wpList_make_full _ rfl _ _ 82 rfl w.heap.size 68 i0 (.int .u64 0) 1 Tryz.underlying82 hi hz0 hz1 .i64 .i64 K K K rfl rfl rfl rfl (by rw [hz2]; omega) (by unfold maxLen; omega) (Nat.le_refl _) ?_; intro w1 hown hg; have H1 := Hid.mk (And.intro hown hg); clear hown hg)
  have hs1 : w.heap.size < w1.heap.size := by
    rcases H1.out.1.2 with ⟨h, _⟩ | ⟨g, c, cur, h, _, hg, _⟩
    · cases h
    · simp at h; obtain ⟨rfl, _⟩ := h; exact lt_of_block hg
  have hm1 : More w w1 := ⟨H1.out.2.os, H1.out.2.tape, H1.out.2.output, H1.out.2.size, fun k hk => H1.out.2.block k hk (by simp)⟩
  have h0 := H1.out.1
  rw [lowTo_none f d K] at h0
  go_loopw [15] (fun i wr => ∃ k : Nat, k ≤ K ∧ i = .int .i64 k ∧ Hid (wr.ownsRow w.heap.size 68 1 (.slice (some ⟨w.heap.size, 0, none⟩) K K) K (u64s (lowTo f d k) K) ∧ More w wr ∧ w.heap.size < wr.heap.size)) (fun i _ => K - (intOf i).toNat)
  case atStart => exact ⟨0, Nat.zero_le _, rfl, Hid.mk ⟨h0, hm1, hs1⟩⟩
  case round =>
    obtain ⟨k, hk, rfl, HR⟩ := hrel
    by_cases hkK : k < K
    · obtain ⟨g, o, rfl, hc⟩ := HH.out.1.cell (w' := wr) k hkK
      have hck := hc HR.out.2.1
      clear hc
      have hlb := fun w => el_lowBits (f k) d (by have := HH.out.2 k hkK; omega) hd w
      obtain ⟨X, hX⟩ : ∃ X, f k % 2 ^ d = X := ⟨_, rfl⟩
      rw [hX] at hlb
      have HX := Hid.mk hX
      clear hX
      have hfz : ∀ m, (wr.drewN m).frozen? ⟨w.heap.size, k, none⟩ = false := fun m => HR.out.1.frozenAt k
      have hcl : ∀ m, (wr.drewN m).cell? ⟨w.heap.size, k, none⟩ = some (.int .u64 (lowTo f d k k : Nat)) := fun m => by
        have := HR.out.1.cellAt k (by omega)
        rw [u64s_get _ _ _ hkK] at this
        exact this
      go_wp2_with (go_at_call 76; refine (hlb _).mono ?_; rintro e w' ⟨rfl, m, hw⟩; subst w')
      refine ⟨⟨k + 1, by omega, by go_num, Hid.mk ?_⟩, by simp [intOf]; omega⟩
      have hs := (HR.out.1.stored k (.int .u64 (X : Nat))).1
      rw [← HX.out, lowTo_set f d k K, HX.out] at hs
      exact ⟨hs, (More.trans HR.out.2.1 (More.drewN wr m)).setCell (p := ⟨w.heap.size, k, none⟩) (Nat.le_refl _) _, Nat.lt_of_lt_of_le HR.out.2.2 ((Below.refl 0 (wr.drewN m)).setCell (p := ⟨w.heap.size, k, none⟩) (Nat.zero_le _) _).size⟩
    · obtain rfl : k = K := by omega
      have hr := HR.out.1
      rw [lowTo_all] at hr
      have hpn := pack_new _ k d (fun i => f i % 2 ^ d) wr (rd_of_own hr) (fun j _ => mod_lt64 _ _ hd) hd (by omega)
      have hfit : wid (fun i => f i % 2 ^ d) k ≤ d := (wid_le _ _ _).2 fun j _ => Lib.bitLen_le _ d hd (Nat.mod_lt _ (Nat.two_pow_pos d))
      have HP := Hid.mk hfit
      clear hr hfit
      go_wp2_with (go_at_call 77; refine hpn.mono ?_; rintro e w2 ⟨⟨_, p, rfl, hp⟩ | ⟨hh, _⟩, hm⟩; rotate_left; exact absurd HP.out hh; have H2 := Hid.mk (And.intro hp hm); clear hp hm)
      go_ret
      exact ⟨_, rfl, H2.out.1.lower HR.out.2.1.size, More.trans HR.out.2.1 H2.out.2⟩

end Go.Proofs.YtbjgbigalfhnjaaGreatDoor

namespace Go.Proofs.YtbjgbigalfhnjaaGreatDoor
open Go.RowKit

theorem cat_nought (V n : Nat) : cat V n 0 = V := by simp [cat]
theorem cat_far (V n m r p : Nat) (h : n + m + r = p) : cat V (n + m) (2 ^ r) = cat V p 1 := by
  subst h; unfold cat; rw [← Nat.pow_add, Nat.mul_one]

/-- A nought more, 64 times. -/
theorem add_noughts (base b V n : Nat) (w : World) (h : RowAt w base b V n) (hsz : base ≤ w.heap.size) (hn : n + 64 ≤ 1099511627776) :
    Calls Tryz.prog 75 #[.pointer (some ⟨b, 0, none⟩), .int .u64 0, .int .i64 64] w fun e w' => e = .returned (.int .i64 0) ∧ RowAt w' base b V (n + 64) ∧ Below base w w' := by
  have := row_add base b V n 0 64 w h hsz (by decide) hn
  have e0 : addErr 0 64 = 0 := addErr_le 0 64 (by decide) (by decide)
  rw [addV, addN, if_pos e0, if_pos e0, e0, cat_nought] at this
  exact this.mono fun e w' ⟨a, b, c⟩ => ⟨a, b, c.below⟩
/-- r noughts and a one. -/
theorem add_one (base b V n r : Nat) (w : World) (h : RowAt w base b V n) (hsz : base ≤ w.heap.size) (hn : n + 64 ≤ 1099511627776) (hr : r < 64) :
    Calls Tryz.prog 75 #[.pointer (some ⟨b, 0, none⟩), .int .u64 ((2 : Int) ^ r), .int .i64 ((r : Int) + 1)] w fun e w' => e = .returned (.int .i64 0) ∧ RowAt w' base b (cat V n (2 ^ r)) (n + (r + 1)) ∧ Below base w w' := by
  have hx : 2 ^ r < 2 ^ 64 := Nat.pow_lt_pow_right (by decide) hr
  have := row_add base b V n (2 ^ r) ((r + 1 : Nat) : Int) w h hsz hx hn
  have e0 : addErr (2 ^ r) ((r + 1 : Nat) : Int) = 0 := addErr_le (2 ^ r) (r + 1) (by omega) (Lib.bitLen_le _ _ (by omega) (Nat.pow_lt_pow_right (by decide) (by omega)))
  rw [addV, addN, if_pos e0, if_pos e0, e0, Int.toNat_natCast, Int.natCast_pow] at this
  exact this.mono fun e w' ⟨a, b, c⟩ => ⟨a, b, c.below⟩

theorem hN_top {f : Nat → Nat} {n : Nat} (h : Climbs f n) (d : Nat) {k : Nat} (hk : k < n) : hp f d k + 1 ≤ hN f d n := hp_end h d hk

set_option maxHeartbeats 800000 in
set_option maxRecDepth 1000000 in
theorem el_highPart (v : Value) (K d : Nat) (f : Nat → Nat) (w : World) (h : ZRd w v K (fun j => (f j : Int))) (hC : Climbs f K) (hd : d ≤ 60) (hK : K ≤ 4000) (hTop : hN f d K + 64 ≤ 1099511627776) :
    Calls Tryz.prog 55 #[v, .int .i64 d] w fun e w' => ∃ b, e = .returned (.pointer (some ⟨b, 0, none⟩)) ∧ RowAt w' w.heap.size b (hV f d K) (hN f d K) ∧ More w w' := by
  obtain ⟨ao, cap, rfl⟩ := h.shape
  have hrow0 : RowAt (w.alloc (.cells #[.slice none 0 0, .int .i64 0] 102)) w.heap.size w.heap.size 0 0 :=
    ⟨Nat.le_refl _, by decide, by decide, _, heap_alloc_new _ _, World.ownsRow_nil _ _ _ _⟩
  have HR0 := Hid.mk (And.intro hrow0 ((Below.refl w.heap.size w).alloc (Nat.le_refl _) (.cells #[.slice none 0 0, .int .i64 0] 102)))
  have HH := Hid.mk (And.intro h (And.intro hC hTop))
  clear hrow0 h hC hTop
  go_enter Tryz.func55, Tryz.ntmps55
  go_wp2_with (go_at_call 49; refine (new_row _).mono ?_; rintro e w' ⟨rfl, hw⟩; subst w')
  go_loopw [6, 13] (fun a i wr => ∃ k A : Nat, k ≤ K ∧ i = .int .i64 k ∧ a = .int .i64 A ∧ A ≤ 1099511627776 ∧ Hid (A + k = hN f d k ∧ RowAt wr w.heap.size w.heap.size (hV f d k) (hN f d k) ∧ Below w.heap.size w wr)) (fun _ i _ => K - (intOf i).toNat)
  case atStart => exact ⟨0, 0, Nat.zero_le _, rfl, rfl, by decide, Hid.mk ⟨rfl, HR0.out.1, HR0.out.2⟩⟩
  case round =>
    obtain ⟨k, A, hk, rfl, rfl, hA, HR⟩ := hrel
    by_cases hkK : k < K
    · obtain ⟨g, o, rfl, hc⟩ := HH.out.1.cell (w' := wr) k hkK
      have hck := hc HR.out.2.2
      have hfk := HH.out.2.1.top k hkK
      obtain ⟨H, hH⟩ : ∃ H, f k / 2 ^ d = H := ⟨_, rfl⟩
      have hHf : H ≤ f k := by rw [← hH]; exact Nat.div_le_self _ _
      have hsh : ((f k : Nat) : Int) / 2 ^ d = (H : Int) := by rw [← hH, Int.natCast_ediv, Int.natCast_pow]; rfl
      have hle := hN_le HH.out.2.1 d hkK
      have htop := hN_top HH.out.2.1 d hkK
      have hpe : hp f d k = H + k := by unfold hp; rw [hH]
      have hAH : A ≤ H := by have := HR.out.1; omega
      obtain ⟨M, hM⟩ : ∃ M, H = A + M := ⟨H - A, by omega⟩
      have e1 : (H : Int) - (A : Int) = M := by omega
      have e2 : (A : Int) + (M : Int) = H := by omega
      have HM := Hid.mk (And.intro hH (And.intro hle (And.intro htop (And.intro hpe hM))))
      have hM2 : M ≤ 1099511627776 := by omega
      have hHb : H ≤ 1099511627776 := by omega
      clear hc hH hle htop hpe hM
      go_wp2
      go_loopw [9] (fun c wi => ∃ R j : Nat, c = .int .i64 R ∧ R ≤ M ∧ Hid (R + 64 * j = M ∧ RowAt wi w.heap.size w.heap.size (hV f d k) (hN f d k + 64 * j) ∧ Below w.heap.size w wi)) (fun c _ => (intOf c).toNat)
      case atStart => exact ⟨M, 0, rfl, Nat.le_refl _, Hid.mk ⟨rfl, HR.out.2.1, HR.out.2.2⟩⟩
      case round =>
        obtain ⟨R, j, rfl, hRM, HI⟩ := hrel
        have hnl : hN f d k + 64 * j + 64 ≤ 1099511627776 := by have h1 := HI.out.1; have h2 := HM.out; have h3 := HH.out.2.2; have h4 := HR.out.1; omega
        by_cases hR : 64 ≤ R
        · have hadd := add_noughts w.heap.size w.heap.size _ _ wr HI.out.2.1 HI.out.2.2.size hnl
          clear hnl
          go_wp2_with (go_at_call 75; refine hadd.mono ?_; rintro e w1 ⟨rfl, hrow, hkeep⟩; have H1 := Hid.mk (And.intro hrow (HI.out.2.2.trans hkeep)); clear hrow hkeep)
          refine ⟨⟨R - 64, j + 1, by go_num, by omega, Hid.mk ⟨by have := HI.out.1; omega, ?_, H1.out.2⟩⟩, by simp [intOf]; omega⟩
          rw [show hN f d k + 64 * (j + 1) = hN f d k + 64 * j + 64 by omega]
          exact H1.out.1
        · have hadd := add_one w.heap.size w.heap.size _ _ R wr HI.out.2.1 HI.out.2.2.size hnl (by omega)
          have hpw : IntKind.u64.wrap ((2 : Int) ^ R) = (2 : Int) ^ R := by
            have h1 : (2 : Nat) ^ R < 2 ^ 64 := Nat.pow_lt_pow_right (by decide) (by omega)
            have h2 : ((2 ^ R : Nat) : Int) = (2 : Int) ^ R := by rw [Int.natCast_pow]; rfl
            rw [← h2]
            generalize (2 : Nat) ^ R = P at h1 ⊢
            rw [IntKind.wrap_u64]; omega
          clear hnl
          go_wp2_with (go_at_call 75; refine hadd.mono ?_; rintro e w1 ⟨rfl, hrow, hkeep⟩; have H1 := Hid.mk (And.intro hrow (HI.out.2.2.trans hkeep)); clear hrow hkeep)
          refine ⟨⟨k + 1, H, by omega, by go_num, rfl, hHb, Hid.mk ⟨?_, ?_, H1.out.2⟩⟩, by simp [intOf]; omega⟩
          · rw [hN, HM.out.2.2.2.1]; omega
          · have hpp : hN f d k + 64 * j + R = hp f d k := by have h1 := HI.out.1; have h2 := HM.out; have h4 := HR.out.1; omega
            have := H1.out.1
            rw [cat_far _ _ _ _ _ hpp, ← Nat.add_assoc, hpp] at this
            exact this
    · obtain rfl : k = K := by omega
      clear hkK hk
      go_wp2
      go_ret
      exact ⟨_, rfl, HR.out.2.1, HR.out.2.2⟩

end Go.Proofs.YtbjgbigalfhnjaaGreatDoor
