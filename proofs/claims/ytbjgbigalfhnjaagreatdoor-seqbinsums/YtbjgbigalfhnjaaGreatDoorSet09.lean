/-
  The law's Small, Row and Bits.
  seldir's New and Ones, and how many ones, or noughts, lie ahead of a mark.
  seldir's search: sort.Search over the marks, then word by word.
-/
import Derived.Test.YtbjgbigalfhnjaaGreatDoorSet08
import Derived.Test.YtbjgbigalfhnjaaGreatDoorSet06
import Derived.BigQuiet
import Derived.Deep.RegionWith
import Derived.StillTailTactics
namespace Go.Proofs.YtbjgbigalfhnjaaGreatDoor
open Go.RowKit

/-- A case, as it came in. -/
abbrev caseV (s : Value) (T x N : Nat) : Value := .agg #[s, .int .u8 T, .int .u64 x, .int .u8 N]

theorem wrapS (n : Nat) (h : n ≤ 1000000) : IntKind.i64.wrap (n : Int) = n := by
  rw [IntKind.wrap_i64]; omega

theorem addErr_fit (x d : Nat) (hd : d ≤ 64) (h : x < 2 ^ d) : addErr x d = 0 := by
  have hb : Lib.bitLen x ≤ d := Lib.bitLen_le x d hd h
  unfold addErr
  rw [if_neg (by omega), if_neg (by simp; omega)]

theorem row_fit (base b V n x N : Nat) (w : World) (h : RowAt w base b V n) (hsz : base ≤ w.heap.size) (hN : N ≤ 64) (hx : x < 2 ^ N) (hn : n + 64 ≤ 1099511627776) :
    Calls Tryz.prog 75 #[.pointer (some ⟨b, 0, none⟩), .int .u64 x, .int .i64 N] w fun e w' => e = .returned (.int .i64 0) ∧ RowAt w' base b (cat V n x) (n + N) ∧ KeepsO base (RowBlk w b) w w' := by
  have := row_add_o base b V n x N w h hsz (Nat.lt_of_lt_of_le hx (Nat.pow_le_pow_right (by decide) hN)) hn
  have e0 := addErr_fit x N hN hx
  rwa [addV, addN, if_pos e0, if_pos e0, e0, Int.toNat_natCast] at this

end Go.Proofs.YtbjgbigalfhnjaaGreatDoor

namespace Go.Proofs.YtbjgbigalfhnjaaGreatDoor
open Go.RowKit

/-- The blocks from B on that were there are as they were. -/
def Stays (B : Nat) (w w' : World) : Prop := ∀ k, B ≤ k → k < w.heap.size → w'.heap[k]? = w.heap[k]?
theorem own_stays {B base n : Nat} {w w' : World} {e : TypeId} {v : Value} {xs : List Value} (h : w.ownsRow base e 1 v n xs) (hB : B ≤ base) (k : Stays B w w') : w'.ownsRow base e 1 v n xs := by
  refine ⟨h.1, ?_⟩
  rcases h.2 with h2 | ⟨g, cap, cur, hv, hb, hg, hr⟩
  · exact .inl h2
  · exact .inr ⟨g, cap, cur, hv, hb, by rw [k g (Nat.le_trans hB hb) (lt_of_block hg)]; exact hg, hr⟩
theorem More.stays {w w' : World} (k : More w w') : Stays 0 w w' := fun j _ hj => k.block j hj
theorem more_alloc (w : World) (o : Obj) : More w (w.alloc o) := (Below.refl _ w).alloc (Nat.le_refl _) o

/-- seldir's directory of the n bits of V lies at block d, from block 'base' on. -/
structure SDirAt (w : World) (base d V n : Nat) : Prop where
  fit : V < 2 ^ n
  len : n ≤ 1099511627776
  lo : base ≤ d
  mem : ∃ v m, w.heap[d]? = some (.cells #[v, m, .int .i64 n] 117 (0, 0)) ∧ w.ownsRow base 68 1 v (nw n) (u64s (wd V) (nw n)) ∧ w.ownsRow base 3 1 m (nm n + 1) (ints (mk V n) (nm n + 1))
theorem SDirAt.rd {w : World} {base d V n : Nat} (h : SDirAt w base d V n) : DirRd w d V n := by
  obtain ⟨v, m, hb, hv, hm⟩ := h.mem
  obtain ⟨c0, c1, c2, _⟩ := cells3 hb
  exact ⟨h.fit, h.len, c2, ⟨v, c0, rd_of_own hv⟩, ⟨m, c1, ird_of_own hm⟩⟩
theorem SDirAt.stays {B base d V n : Nat} {w w' : World} (h : SDirAt w base d V n) (hB : B ≤ base) (k : Stays B w w') : SDirAt w' base d V n := by
  obtain ⟨v, m, hb, hv, hm⟩ := h.mem
  exact ⟨h.fit, h.len, h.lo, v, m, by rw [k d (Nat.le_trans hB h.lo) (lt_of_block hb)]; exact hb, own_stays hv hB k, own_stays hm hB k⟩
theorem SDirAt.more {base d V n : Nat} {w w' : World} (h : SDirAt w base d V n) (k : More w w') : SDirAt w' base d V n := h.stays (Nat.zero_le _) k.stays

set_option maxRecDepth 1000000 in
theorem sdir_new (p : Value) (V n : Nat) (w : World) (h : ∀ w', More w w' → RowOr w' p V n) :
    Calls Tryz.prog 54 #[p] w fun e w' => ∃ d, e = .returned (.pointer (some ⟨d, 0, none⟩)) ∧ SDirAt w' w.heap.size d V n ∧ More w w' := by
  have h0 := h w (Below.refl _ _)
  have hw := h0.words
  have HH := Hid.mk (And.intro h0.fit (And.intro h0.len h))
  clear h h0
  go_enter Tryz.func54, Tryz.ntmps54
  go_wp2_with (first
    | (go_at_call 73; refine hw.mono ?_; rintro e w1 ⟨v', rfl, hown, hm⟩; obtain ⟨ao, cap, rfl⟩ := shape_of hown; have H1 := Hid.mk (And.intro hown hm); clear hown hm)
    | (go_at_call 78; refine (dir_new p V n w1 (HH.out.2.2 w1 H1.out.2)).mono ?_; rintro e w2 ⟨d2, rfl, hd, hm⟩; have H2 := Hid.mk (And.intro hd hm); clear hd hm)
    | (go_at_call 79; refine (dir_marks d2 V n w2 H2.out.1.rd.c1 HH.out.2.1).mono ?_; rintro e w3 ⟨v3, rfl, hown, hm⟩; obtain ⟨a3, c3, rfl⟩ := shape_of hown; have H3 := Hid.mk (And.intro hown hm); clear hown hm)
    | (go_at_call 41; refine ((HH.out.2.2 w3 (More.trans H1.out.2 (More.trans H2.out.2 H3.out.2))).lenAt w3 (Below.refl _ _)).mono ?_; rintro e w' ⟨rfl, hw'⟩; subst w'))
  go_ret
  have h13 : More w1 w3 := More.trans H2.out.2 H3.out.2
  have h03 : More w w3 := More.trans H1.out.2 h13
  have hs2 : w.heap.size ≤ w2.heap.size := (More.trans H1.out.2 H2.out.2).size
  exact ⟨_, rfl, ⟨HH.out.1, HH.out.2.1, h03.size, _, _, heap_alloc_new _ _, (More.own H1.out.1 h13).alloc _, (own_lower H3.out.1 hs2).alloc _⟩, h03.alloc h03.size _⟩

/-- How many ones lie ahead of a mark. -/
theorem one_ahead (d V n m c : Nat) (w : World) (h : DirRd w d V n) (hc : w.cell? ⟨c, 0, none⟩ = some (.pointer (some ⟨d, 0, none⟩))) (hm : m ≤ nm n) :
    Calls Tryz.prog 87 #[.int .i64 m, .pointer (some ⟨c, 0, none⟩)] w fun e w' => e = .returned (.int .i64 (ah V n m : Nat)) ∧ ∃ j, w' = w.drewN j := by
  obtain ⟨v, c1, hi⟩ := h.c1
  obtain ⟨am, cm, rfl⟩ := hi.shape
  obtain ⟨gm, rfl, hgm⟩ := hi.at (by omega)
  have hl : w.cell? ⟨gm, m, none⟩ = some (.int .i64 (ah V n m : Nat)) := hgm m (by omega)
  have i2 : m < nm n + 1 := by omega
  generalize nm n + 1 = K at *
  clear h hi hgm hm
  go_enter Tryz.func87, Tryz.ntmps87
  go_wp2
  go_ret
  exact ⟨rfl, 0, rfl⟩

/-- How many noughts lie ahead of a mark. -/
theorem ah_flip (V n m : Nat) (h : V < 2 ^ n) : ((min (512 * m) n : Nat) : Int) - (mk V n m : Nat) = (ah (flipV V (nw n)) n m : Nat) := by
  have hn : n ≤ 64 * nw n := by unfold nw; omega
  have hV : V < 2 ^ (64 * nw n) := Nat.lt_of_lt_of_le h (Nat.pow_le_pow_right (by decide) hn)
  unfold ah mk
  rw [flip_rk hV _ (by omega)]
  have := rk_le V (min (512 * m) n)
  omega

end Go.Proofs.YtbjgbigalfhnjaaGreatDoor

namespace Go.Proofs.YtbjgbigalfhnjaaGreatDoor
open Go.RowKit

/-- The function number G, that captured the cell c, tells how many lie ahead of each mark, now and later. -/
def Ahead (G : Nat) (w : World) (c U n : Nat) : Prop :=
  ∀ m, m ≤ nm n → ∀ w', More w w' → Calls Tryz.prog G #[.int .i64 m, .pointer (some ⟨c, 0, none⟩)] w' fun e w'' => e = .returned (.int .i64 (ah U n m : Nat)) ∧ ∃ j, w'' = w'.drewN j
theorem Ahead.more {G : Nat} {w w' : World} {c U n : Nat} (h : Ahead G w c U n) (k : More w w') : Ahead G w' c U n := fun m hm w1 h1 => h m hm w1 (More.trans k h1)

/-- The function that is handed in. -/
def Two (G : Nat) : Prop := G = 87 ∨ False

set_option maxRecDepth 1000000 in
theorem find_1 (G c U n s k ba bk : Nat) (w : World) (hG : Two G) (hA : Ahead G w c U n) (hs : s + 1 ≤ nm n) (hb : nm n ≤ 2147483649)
    (ca : w.cell? ⟨ba, 0, none⟩ = some (.func (.func G) #[] #[.pointer (some ⟨c, 0, none⟩)])) (ck : w.cell? ⟨bk, 0, none⟩ = some (.int .i64 k)) :
    Calls Tryz.prog 100 #[.int .i64 s, .pointer (some ⟨ba, 0, none⟩), .pointer (some ⟨bk, 0, none⟩)] w fun e w' => e = .returned (.bool (decide (k < ah U n (s + 1)))) ∧ ∃ j, w' = w.drewN j := by
  have hc : ∀ m, Calls Tryz.prog G #[.int .i64 ((s : Int) + 1), .pointer (some ⟨c, 0, none⟩)] (w.drewN m) fun e w'' => e = .returned (.int .i64 (ah U n (s + 1) : Nat)) ∧ ∃ j, w'' = (w.drewN m).drewN j := fun m => hA (s + 1) hs _ (More.drewN _ m)
  generalize ah U n (s + 1) = B at *
  have i1 : IntKind.i64.wrap ((s : Int) + 1) = (s : Int) + 1 := by rw [IntKind.wrap_i64]; omega
  clear hA
  rcases hG with rfl | hG
  · go_enter Tryz.func100, Tryz.ntmps100
    go_wp2
    go_quiet ((go_at_call 87; exact Calls.quiet_of (hc _)))
    go_wp2
    go_ret
    exact ⟨by simp, _, rfl⟩
  · exact hG.elim

set_option maxHeartbeats 800000 in
set_option maxRecDepth 1000000 in
theorem search (N ba bk : Nat) (P : Nat → Bool) (w : World) (hN : N ≤ 2147483649) (hP : ∀ a b, a ≤ b → b < N → P a = true → P b = true)
    (hf : ∀ s, s < N → ∀ m, Calls Tryz.prog 100 #[.int .i64 s, .pointer (some ⟨ba, 0, none⟩), .pointer (some ⟨bk, 0, none⟩)] (w.drewN m) fun e w' => e = .returned (.bool (P s)) ∧ ∃ j, w' = (w.drewN m).drewN j) :
    Calls Tryz.prog 99 #[.int .i64 N, .func (.func 100) #[] #[.pointer (some ⟨ba, 0, none⟩), .pointer (some ⟨bk, 0, none⟩)]] w fun e w' => ∃ r : Nat, e = .returned (.int .i64 r) ∧ r ≤ N ∧ (∀ j, j < r → P j = false) ∧ (∀ j, r ≤ j → j < N → P j = true) ∧ ∃ j, w' = w.drewN j := by
  have HP := Hid.mk hP
  clear hP
  have hnot : ∀ (x : Bool) (w : World), (Op.unary .not (.bool x)).run Tryz.prog w = .ok (.bool (!x)) w := fun _ _ => rfl
  go_enter Tryz.func99, Tryz.ntmps99
  go_wp2
  go_loopw [5, 6] (fun a b wr => ∃ x y : Nat, a = .int .i64 x ∧ b = .int .i64 y ∧ x ≤ y ∧ y ≤ N ∧ (∃ m, wr = w.drewN m) ∧ Hid ((∀ j, j < x → P j = false) ∧ (∀ j, y ≤ j → j < N → P j = true))) (fun a b _ => (intOf b).toNat - (intOf a).toNat)
  case atStart => exact ⟨0, N, rfl, rfl, Nat.zero_le _, Nat.le_refl _, ⟨0, rfl⟩, Hid.mk ⟨fun j h => by omega, fun j h1 h2 => by omega⟩⟩
  case round =>
    obtain ⟨x, y, rfl, rfl, hxy, hy, ⟨m, rfl⟩, HR⟩ := hrel
    by_cases hlt : x < y
    · obtain ⟨q, hq⟩ : ∃ q, (x + y) / 2 = q := ⟨_, rfl⟩
      have hd : ((x : Int) + (y : Int)) / 2 = (q : Int) := by omega
      have hqx : x ≤ q ∧ q < y := by omega
      have hq1 := hqx.1
      have hq2 := hqx.2
      have hfq := hf q (by omega) m
      clear hq hqx
      cases hB : P q with
      | false =>
        rw [hB] at hfq
        have HB := Hid.mk hB
        clear hB hf
        go_wp2_with (go_at_call 100; refine hfq.mono ?_; rintro e w1 ⟨rfl, m1, hw1⟩; subst w1)
        refine ⟨⟨q + 1, y, by go_num, rfl, by omega, hy, ⟨m + m1, by simp⟩, Hid.mk ⟨fun j h => ?_, HR.out.2⟩⟩, by simp [intOf]; omega⟩
        cases hj : P j with
        | false => rfl
        | true => have := HP.out j q (by omega) (by omega) hj; rw [HB.out] at this; exact absurd this (by decide)
      | true =>
        rw [hB] at hfq
        have HB := Hid.mk hB
        clear hB hf
        go_wp2_with (go_at_call 100; refine hfq.mono ?_; rintro e w1 ⟨rfl, m1, hw1⟩; subst w1)
        refine ⟨⟨x, q, rfl, by go_num, by omega, by omega, ⟨m + m1, by simp⟩, Hid.mk ⟨HR.out.1, fun j h1 h2 => HP.out q j h1 h2 HB.out⟩⟩, by simp [intOf]; omega⟩
    · obtain rfl : x = y := by omega
      clear hf
      go_wp2
      go_ret
      exact ⟨x, rfl, hy, HR.out.1, HR.out.2, m, rfl⟩

end Go.Proofs.YtbjgbigalfhnjaaGreatDoor
