/-
  rankdir's Zeros and Marks, and the document's own answers for it: Rank, Marks, Ints.
  How rows of some length come about: the document's Row, the law's Row, Bits and Small.
  The law's Small, Row and Bits.
  seldir's New and Ones, and how many ones, or noughts, lie ahead of a mark.
-/
import Derived.Test.YtheieibkbeckkaaDoorPartC
import Derived.StillTailTactics
import Derived.BigQuiet
namespace Go.Proofs.YtheieibkbeckkaaDoor
open Go.RowKit

theorem ints_one (f : Nat → Nat) (K : Nat) : ∀ u ∈ ints f K, u.oneCell' = true := by
  intro y hy; simp [ints] at hy; obtain ⟨_, _, rfl⟩ := hy; rfl

set_option maxRecDepth 1000000 in
theorem clone_ints (v : Value) (K : Nat) (f : Nat → Nat) (w : World) (h : IRd w v K f) (hK : K ≤ 1099511627776) (h0 : 0 < K) :
    Calls Tryd.prog 54 #[v] w fun e w' => ∃ v', e = .returned v' ∧ w'.ownsRow w.heap.size 3 1 v' K (ints f K) ∧ More w w' := by
  obtain ⟨i0, hi, hz0, hz1, hz2⟩ := info_parts Tryd.infoInt
  have he : (w.alloc (.cells #[] 3)).ownsRow w.heap.size 3 1 (.slice (some ⟨w.heap.size, 0, none⟩) 0 0) 0 [] := World.ownsRow_lit w #[] 0 (Nat.le_refl _) (by decide) rfl
  have hke : Below w.heap.size w (w.alloc (.cells #[] 3)) := (Below.refl w.heap.size w).alloc (Nat.le_refl _) (.cells #[] 3)
  rcases h with ⟨rfl, _⟩ | ⟨g, cap, rfl, hg, hc⟩
  · omega
  · have hn : ∀ w : World, (binOp .eql 22 (.slice (some ⟨g, 0, none⟩) K cap) (.slice none 0 0)).run Tryd.prog w = .ok (.bool false) w := fun _ => rfl
    have HE : Hid _ := And.intro he hke
    have hcc : ∀ (j : Nat) u, (ints f K)[j]? = some u → (w.alloc (.cells #[] 3)).cell? ((⟨g, 0, none⟩ : Addr).add j) = some u := by
      intro j u hu
      have hj : j < K := by have := (List.getElem?_eq_some_iff.1 hu).1; simpa [ints_len] using this
      rw [ints_get _ _ _ hj] at hu
      rw [Addr.add_lit, World.cell?_alloc_past _ _ _ hg, Nat.zero_add, hc j hj]
      exact hu
    have HC : Hid _ := hcc
    clear he hke hc hcc
    go_enter Tryd.func54, Tryd.ntmps54
    go_wp2_with (at_builtin; refine wpList_append_own _ rfl (.tmp 5) (.tmp 6) 22 rfl w.heap.size 3 i0 (.int .i64 0) 1 8 Tryd.underlying22 hi hz0 hz1 hz2 rfl (by decide) _ _ _ rfl HE.out.1 ⟨g, 0, none⟩ K cap (ints f K) rfl (by rw [ints_len, Nat.mul_one]) HC.out ?c2 ?c3 ?c4 ?c5 ?_)
    case c2 => exact ints_one f K
    case c3 => unfold maxLen; omega
    case c4 => omega
    case c5 => simp
    · intro v' w1 hown hgrow _
      have hk : More w w1 := HE.out.2.grown hgrow (by simp) (fun k hk => (HE.out.1.lt k hk).1)
      have HO : Hid _ := And.intro hown hk
      clear hown hgrow hk HE
      go_wp2
      go_ret
      exact ⟨_, rfl, HO.out.1, HO.out.2⟩

theorem dir_marks (d V n : Nat) (w : World) (c1 : ∃ m, w.cell? ⟨d, 1, none⟩ = some m ∧ IRd w m (nm n + 1) (mk V n)) (hlen : n ≤ 1099511627776) :
    Calls Tryd.prog 35 #[.pointer (some ⟨d, 0, none⟩)] w fun e w' => ∃ v', e = .returned v' ∧ w'.ownsRow w.heap.size 3 1 v' (nm n + 1) (ints (mk V n) (nm n + 1)) ∧ More w w' := by
  obtain ⟨m, c1, hm⟩ := c1
  have hcl := clone_ints m (nm n + 1) (mk V n) w hm (by unfold nm nw; omega) (by omega)
  obtain ⟨ao, cap, rfl⟩ := hm.shape
  clear hm
  go_enter Tryd.func35, Tryd.ntmps35
  go_wp2_with (go_at_call 54; refine hcl.mono ?_; rintro e w' ⟨v', rfl, hown, hk⟩; have HO : Hid _ := And.intro hown hk; clear hown hk)
  go_ret
  exact ⟨_, rfl, HO.out.1, HO.out.2⟩
theorem none_marks (w : World) : Calls Tryd.prog 35 #[.pointer none] w fun e w' => e = .returned (.slice none 0 0) ∧ w' = w := by
  go_enter Tryd.func35, Tryd.ntmps35
  go_wp2
  go_ret
  exact ⟨rfl, rfl⟩

theorem IRd.drewN {w : World} {v : Value} {K : Nat} {f : Nat → Nat} (h : IRd w v K f) (m : Nat) : IRd (w.drewN m) v K f := h

end Go.Proofs.YtheieibkbeckkaaDoor

namespace Go.Proofs.YtheieibkbeckkaaDoor
open Go.RowKit

/-- Words that are there again and again. -/
def turn (f : Nat → Nat) (L j : Nat) : Nat := f (j % L)
theorem turn_at (f : Nat → Nat) (L k i : Nat) (h : i < L) : turn f L (L * k + i) = f i := by
  unfold turn; rw [Nat.mul_add_mod, Nat.mod_eq_of_lt h]
theorem turn_lt (f : Nat → Nat) (L j : Nat) (hL : 0 < L) (hf : ∀ j, j < L → f j < 18446744073709551616) : turn f L j < 18446744073709551616 := hf _ (Nat.mod_lt _ hL)
/-- M of them, as a number. -/
def turnV (f : Nat → Nat) (L M : Nat) : Nat := ofW (turn f L) M
theorem turnV_lt (f : Nat → Nat) (L M : Nat) (hf : ∀ j, j < L → f j < 18446744073709551616) (h : L = 0 → M = 0) : turnV f L M < 2 ^ (64 * M) := by
  by_cases hL : L = 0
  · rw [h hL]; simp [turnV, ofW]
  · exact ofW_lt _ _ fun j _ => turn_lt f L j (by omega) hf
theorem turnV_succ (f : Nat → Nat) (L k i : Nat) (h : i < L) : turnV f L (L * k + i + 1) = cat (turnV f L (L * k + i)) (64 * (L * k + i)) (f i) := by
  rw [turnV, ofW, turn_at f L k i h]; rfl

theorem Rd.cell {w w' : World} {ao : Option Addr} {K cap : Nat} {f : Nat → Nat} (h : Rd w (.slice ao K cap) K f) (k : Nat) (hk : k < K) : ∃ g o, ao = some ⟨g, o, none⟩ ∧ (More w w' → w'.cell? ⟨g, o + k, none⟩ = some (.int .u64 (f k : Nat))) := by
  rcases h with ⟨rfl, _⟩ | ⟨g, o, cap', h, hg, hc⟩
  · omega
  · simp at h
    exact ⟨g, o, h.1, fun m => (m.cell (p := ⟨g, o + k, none⟩) hg).trans (hc k hk)⟩

theorem own_lower {w : World} {base base' : Nat} {e : TypeId} {size : Nat} {v : Value} {n : Nat} {xs : List Value} (h : w.ownsRow base e size v n xs) (hb : base' ≤ base) : w.ownsRow base' e size v n xs := by
  refine ⟨h.1, ?_⟩
  rcases h.2 with h2 | ⟨g, cap, cur, hv, hg, hr⟩
  · exact .inl h2
  · exact .inr ⟨g, cap, cur, hv, Nat.le_trans hb hg, hr⟩

/-- The row's bits behind the words. -/
def rowV (f : Nat → Nat) (L T x N : Nat) : Nat := cat (turnV f L (L * T)) (64 * (L * T)) (x % 2 ^ N)
def rowN (L T N : Nat) : Nat := 64 * (L * T) + N
theorem mul_le_240 {L T : Nat} (hL : L ≤ 6) (hT : T ≤ 40) : L * T ≤ 240 := Nat.mul_le_mul hL hT
theorem rowN_le {L T N : Nat} (hL : L ≤ 6) (hT : T ≤ 40) (hN : N ≤ 64) : rowN L T N ≤ 15424 := by have := mul_le_240 hL hT; unfold rowN; omega
theorem rowV_lt {f : Nat → Nat} {L T x N : Nat} (hf : ∀ j, j < L → f j < 18446744073709551616) : rowV f L T x N < 2 ^ rowN L T N :=
  cat_lt (turnV_lt f L (L * T) hf (fun h => by rw [h, Nat.zero_mul])) (Nat.mod_lt _ (Nat.two_pow_pos N))

end Go.Proofs.YtheieibkbeckkaaDoor

namespace Go.Proofs.YtheieibkbeckkaaDoor
open Go.RowKit

/-- A case, as it came in. -/
abbrev caseV (s : Value) (T x N : Nat) : Value := .agg #[s, .int .u8 T, .int .u64 x, .int .u8 N]

theorem wrapS (n : Nat) (h : n ≤ 1000000) : IntKind.i64.wrap (n : Int) = n := by
  rw [IntKind.wrap_i64]; omega

theorem addErr_fit (x d : Nat) (hd : d ≤ 64) (h : x < 2 ^ d) : addErr x d = 0 := by
  have hb : Lib.bitLen x ≤ d := Lib.bitLen_le x d hd h
  unfold addErr
  rw [if_neg (by omega), if_neg (by simp; omega)]

theorem row_fit (base b V n x N : Nat) (w : World) (h : RowAt w base b V n) (hsz : base ≤ w.heap.size) (hN : N ≤ 64) (hx : x < 2 ^ N) (hn : n + 64 ≤ 1099511627776) :
    Calls Tryd.prog 38 #[.pointer (some ⟨b, 0, none⟩), .int .u64 x, .int .i64 N] w fun e w' => e = .returned (.int .i64 0) ∧ RowAt w' base b (cat V n x) (n + N) ∧ KeepsO base (RowBlk w b) w w' := by
  have := row_add_o base b V n x N w h hsz (Nat.lt_of_lt_of_le hx (Nat.pow_le_pow_right (by decide) hN)) hn
  have e0 := addErr_fit x N hN hx
  rwa [addV, addN, if_pos e0, if_pos e0, e0, Int.toNat_natCast] at this

end Go.Proofs.YtheieibkbeckkaaDoor

namespace Go.Proofs.YtheieibkbeckkaaDoor
open Go.RowKit

/-- The blocks from B on that were there are as they were. -/
def Stays (B : Nat) (w w' : World) : Prop := ∀ k, B ≤ k → k < w.heap.size → w'.heap[k]? = w.heap[k]?
theorem own_stays {B base n : Nat} {w w' : World} {e : TypeId} {v : Value} {xs : List Value} (h : w.ownsRow base e 1 v n xs) (hB : B ≤ base) (k : Stays B w w') : w'.ownsRow base e 1 v n xs := by
  refine ⟨h.1, ?_⟩
  rcases h.2 with h2 | ⟨g, cap, cur, hv, hb, hg, hr⟩
  · exact .inl h2
  · exact .inr ⟨g, cap, cur, hv, hb, by rw [k g (Nat.le_trans hB hb) (lt_of_block hg)]; exact hg, hr⟩
theorem More.stays {w w' : World} (k : More w w') : Stays 0 w w' := fun j _ hj => k.block j hj
theorem more_alloc (w : World) (o : Obj) : More w (w.alloc o) := (Below.refl _ w).alloc (Nat.le_refl _) o

/-- seldir's directory of the n bits of V lies at block d, from block 'base' on. -/
structure SDirAt (w : World) (base d V n : Nat) : Prop where
  fit : V < 2 ^ n
  len : n ≤ 1099511627776
  lo : base ≤ d
  mem : ∃ v m, w.heap[d]? = some (.cells #[v, m, .int .i64 n] 76 (0, 0)) ∧ w.ownsRow base 66 1 v (nw n) (u64s (wd V) (nw n)) ∧ w.ownsRow base 3 1 m (nm n + 1) (ints (mk V n) (nm n + 1))
theorem SDirAt.rd {w : World} {base d V n : Nat} (h : SDirAt w base d V n) : DirRd w d V n := by
  obtain ⟨v, m, hb, hv, hm⟩ := h.mem
  obtain ⟨c0, c1, c2, _⟩ := cells3 hb
  exact ⟨h.fit, h.len, c2, ⟨v, c0, rd_of_own hv⟩, ⟨m, c1, ird_of_own hm⟩⟩
theorem SDirAt.stays {B base d V n : Nat} {w w' : World} (h : SDirAt w base d V n) (hB : B ≤ base) (k : Stays B w w') : SDirAt w' base d V n := by
  obtain ⟨v, m, hb, hv, hm⟩ := h.mem
  exact ⟨h.fit, h.len, h.lo, v, m, by rw [k d (Nat.le_trans hB h.lo) (lt_of_block hb)]; exact hb, own_stays hv hB k, own_stays hm hB k⟩
theorem SDirAt.more {base d V n : Nat} {w w' : World} (h : SDirAt w base d V n) (k : More w w') : SDirAt w' base d V n := h.stays (Nat.zero_le _) k.stays

set_option maxRecDepth 1000000 in
theorem sdir_new (p : Value) (V n : Nat) (w : World) (h : ∀ w', More w w' → RowOr w' p V n) :
    Calls Tryd.prog 21 #[p] w fun e w' => ∃ d, e = .returned (.pointer (some ⟨d, 0, none⟩)) ∧ SDirAt w' w.heap.size d V n ∧ More w w' := by
  have h0 := h w (Below.refl _ _)
  have hw := h0.words
  have HH := Hid.mk (And.intro h0.fit (And.intro h0.len h))
  clear h h0
  go_enter Tryd.func21, Tryd.ntmps21
  go_wp2_with (first
    | (go_at_call 33; refine hw.mono ?_; rintro e w1 ⟨v', rfl, hown, hm⟩; obtain ⟨ao, cap, rfl⟩ := shape_of hown; have H1 := Hid.mk (And.intro hown hm); clear hown hm)
    | (go_at_call 34; refine (dir_new p V n w1 (HH.out.2.2 w1 H1.out.2)).mono ?_; rintro e w2 ⟨d2, rfl, hd, hm⟩; have H2 := Hid.mk (And.intro hd hm); clear hd hm)
    | (go_at_call 35; refine (dir_marks d2 V n w2 H2.out.1.rd.c1 HH.out.2.1).mono ?_; rintro e w3 ⟨v3, rfl, hown, hm⟩; obtain ⟨a3, c3, rfl⟩ := shape_of hown; have H3 := Hid.mk (And.intro hown hm); clear hown hm)
    | (go_at_call 36; refine ((HH.out.2.2 w3 (More.trans H1.out.2 (More.trans H2.out.2 H3.out.2))).lenAt w3 (Below.refl _ _)).mono ?_; rintro e w' ⟨rfl, hw'⟩; subst w'))
  go_ret
  have h13 : More w1 w3 := More.trans H2.out.2 H3.out.2
  have h03 : More w w3 := More.trans H1.out.2 h13
  have hs2 : w.heap.size ≤ w2.heap.size := (More.trans H1.out.2 H2.out.2).size
  exact ⟨_, rfl, ⟨HH.out.1, HH.out.2.1, h03.size, _, _, heap_alloc_new _ _, (More.own H1.out.1 h13).alloc _, (own_lower H3.out.1 hs2).alloc _⟩, h03.alloc h03.size _⟩

/-- How many ones lie ahead of a mark. -/
theorem one_ahead (d V n m c : Nat) (w : World) (h : DirRd w d V n) (hc : w.cell? ⟨c, 0, none⟩ = some (.pointer (some ⟨d, 0, none⟩))) (hm : m ≤ nm n) :
    Calls Tryd.prog 48 #[.int .i64 m, .pointer (some ⟨c, 0, none⟩)] w fun e w' => e = .returned (.int .i64 (ah V n m : Nat)) ∧ ∃ j, w' = w.drewN j := by
  obtain ⟨v, c1, hi⟩ := h.c1
  obtain ⟨am, cm, rfl⟩ := hi.shape
  obtain ⟨gm, rfl, hgm⟩ := hi.at (by omega)
  have hl : w.cell? ⟨gm, m, none⟩ = some (.int .i64 (ah V n m : Nat)) := hgm m (by omega)
  have i2 : m < nm n + 1 := by omega
  generalize nm n + 1 = K at *
  clear h hi hgm hm
  go_enter Tryd.func48, Tryd.ntmps48
  go_wp2
  go_ret
  exact ⟨rfl, 0, rfl⟩

/-- How many noughts lie ahead of a mark. -/
theorem ah_flip (V n m : Nat) (h : V < 2 ^ n) : ((min (512 * m) n : Nat) : Int) - (mk V n m : Nat) = (ah (flipV V (nw n)) n m : Nat) := by
  have hn : n ≤ 64 * nw n := by unfold nw; omega
  have hV : V < 2 ^ (64 * nw n) := Nat.lt_of_lt_of_le h (Nat.pow_le_pow_right (by decide) hn)
  unfold ah mk
  rw [flip_rk hV _ (by omega)]
  have := rk_le V (min (512 * m) n)
  omega

set_option maxHeartbeats 800000 in
set_option maxRecDepth 1000000 in
theorem zero_ahead (d V n m c : Nat) (w : World) (h : DirRd w d V n) (hc : w.cell? ⟨c, 0, none⟩ = some (.pointer (some ⟨d, 0, none⟩))) (hm : m ≤ nm n) :
    Calls Tryd.prog 69 #[.int .i64 m, .pointer (some ⟨c, 0, none⟩)] w fun e w' => e = .returned (.int .i64 (ah (flipV V (nw n)) n m : Nat)) ∧ ∃ j, w' = w.drewN j := by
  have c2 := h.c2
  have hfl := ah_flip V n m h.fit
  obtain ⟨v, c1, hi⟩ := h.c1
  obtain ⟨am, cm, rfl⟩ := hi.shape
  obtain ⟨gm, rfl, hgm⟩ := hi.at (by omega)
  have hl := hgm m (by omega)
  have hb := h.len
  have hmb : m ≤ 2147483649 := by unfold nm nw at hm; omega
  have i2 : m < nm n + 1 := by omega
  have hle : mk V n m ≤ n := Nat.le_trans (rk_le _ _) (by omega)
  obtain ⟨q, hq⟩ : ∃ q, min (512 * m) n = q := ⟨_, rfl⟩
  have e1 : min ((m : Int) * 512) (n : Int) = q := by omega
  have hqn : q ≤ n := by omega
  rw [hq] at hfl
  have i3 : IntKind.i64.wrap ((m : Int) * 512) = (m : Int) * 512 := by rw [IntKind.wrap_i64]; omega
  generalize nm n + 1 = K at *
  generalize mk V n m = R at *
  have hAn := ah_le (flipV V (nw n)) n m
  generalize ah (flipV V (nw n)) n m = A at *
  have i4 : IntKind.i64.wrap (A : Int) = A := by rw [IntKind.wrap_i64]; omega
  clear h hi hgm hm hq
  go_enter Tryd.func69, Tryd.ntmps69
  go_wp2
  go_quiet (fail)
  go_wp2
  go_ret
  exact ⟨rfl, _, rfl⟩

end Go.Proofs.YtheieibkbeckkaaDoor
