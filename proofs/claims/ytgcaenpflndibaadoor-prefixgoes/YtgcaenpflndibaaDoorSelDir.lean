/-
  seldir's New and Ones, and how many ones, or noughts, lie ahead of a mark.
-/
import Derived.Test.YtgcaenpflndibaaDoorSelMath
import Derived.Test.YtgcaenpflndibaaDoorDirCase
import Derived.BigQuiet
namespace Go.Proofs.YtgcaenpflndibaaDoor
open Go.RowKit

/-- The blocks from B on that were there are as they were. -/
def Stays (B : Nat) (w w' : World) : Prop := ∀ k, B ≤ k → k < w.heap.size → w'.heap[k]? = w.heap[k]?
theorem own_stays {B base n : Nat} {w w' : World} {e : TypeId} {v : Value} {xs : List Value} (h : w.ownsRow base e 1 v n xs) (hB : B ≤ base) (k : Stays B w w') : w'.ownsRow base e 1 v n xs := by
  refine ⟨h.1, ?_⟩
  rcases h.2 with h2 | ⟨g, cap, cur, hv, hb, hg, hr⟩
  · exact .inl h2
  · exact .inr ⟨g, cap, cur, hv, hb, by rw [k g (Nat.le_trans hB hb) (lt_of_block hg)]; exact hg, hr⟩
theorem More.stays {w w' : World} (k : More w w') : Stays 0 w w' := fun j _ hj => k.block j hj
theorem more_alloc (w : World) (o : Obj) : More w (w.alloc o) := (Below.refl _ w).alloc (Nat.le_refl _) o

/-- seldir's directory of the n bits of V lies at block d, from block 'base' on. -/
structure SDirAt (w : World) (base d V n : Nat) : Prop where
  fit : V < 2 ^ n
  len : n ≤ 1099511627776
  lo : base ≤ d
  mem : ∃ v m, w.heap[d]? = some (.cells #[v, m, .int .i64 n] 67 (0, 0)) ∧ w.ownsRow base 57 1 v (nw n) (u64s (wd V) (nw n)) ∧ w.ownsRow base 3 1 m (nm n + 1) (ints (mk V n) (nm n + 1))
theorem SDirAt.rd {w : World} {base d V n : Nat} (h : SDirAt w base d V n) : DirRd w d V n := by
  obtain ⟨v, m, hb, hv, hm⟩ := h.mem
  obtain ⟨c0, c1, c2, _⟩ := cells3 hb
  exact ⟨h.fit, h.len, c2, ⟨v, c0, rd_of_own hv⟩, ⟨m, c1, ird_of_own hm⟩⟩
theorem SDirAt.stays {B base d V n : Nat} {w w' : World} (h : SDirAt w base d V n) (hB : B ≤ base) (k : Stays B w w') : SDirAt w' base d V n := by
  obtain ⟨v, m, hb, hv, hm⟩ := h.mem
  exact ⟨h.fit, h.len, h.lo, v, m, by rw [k d (Nat.le_trans hB h.lo) (lt_of_block hb)]; exact hb, own_stays hv hB k, own_stays hm hB k⟩
theorem SDirAt.more {base d V n : Nat} {w w' : World} (h : SDirAt w base d V n) (k : More w w') : SDirAt w' base d V n := h.stays (Nat.zero_le _) k.stays

set_option maxRecDepth 1000000 in
theorem sdir_new (p : Value) (V n : Nat) (w : World) (h : ∀ w', More w w' → RowOr w' p V n) :
    Calls Tryd.prog 22 #[p] w fun e w' => ∃ d, e = .returned (.pointer (some ⟨d, 0, none⟩)) ∧ SDirAt w' w.heap.size d V n ∧ More w w' := by
  have h0 := h w (Below.refl _ _)
  have hw := h0.words
  have HH := Hid.mk (And.intro h0.fit (And.intro h0.len h))
  clear h h0
  go_enter Tryd.func22, Tryd.ntmps22
  go_wp2_with (first
    | (go_at_call 34; refine hw.mono ?_; rintro e w1 ⟨v', rfl, hown, hm⟩; obtain ⟨ao, cap, rfl⟩ := shape_of hown; have H1 := Hid.mk (And.intro hown hm); clear hown hm)
    | (go_at_call 35; refine (dir_new p V n w1 (HH.out.2.2 w1 H1.out.2)).mono ?_; rintro e w2 ⟨d2, rfl, hd, hm⟩; have H2 := Hid.mk (And.intro hd hm); clear hd hm)
    | (go_at_call 36; refine (dir_marks d2 V n w2 H2.out.1.rd.c1 HH.out.2.1).mono ?_; rintro e w3 ⟨v3, rfl, hown, hm⟩; obtain ⟨a3, c3, rfl⟩ := shape_of hown; have H3 := Hid.mk (And.intro hown hm); clear hown hm)
    | (go_at_call 37; refine ((HH.out.2.2 w3 (More.trans H1.out.2 (More.trans H2.out.2 H3.out.2))).lenAt w3 (Below.refl _ _)).mono ?_; rintro e w' ⟨rfl, hw'⟩; subst w'))
  go_ret
  have h13 : More w1 w3 := More.trans H2.out.2 H3.out.2
  have h03 : More w w3 := More.trans H1.out.2 h13
  have hs2 : w.heap.size ≤ w2.heap.size := (More.trans H1.out.2 H2.out.2).size
  exact ⟨_, rfl, ⟨HH.out.1, HH.out.2.1, h03.size, _, _, heap_alloc_new _ _, (More.own H1.out.1 h13).alloc _, (own_lower H3.out.1 hs2).alloc _⟩, h03.alloc h03.size _⟩

/-- How many ones lie ahead of a mark. -/
theorem one_ahead (d V n m c : Nat) (w : World) (h : DirRd w d V n) (hc : w.cell? ⟨c, 0, none⟩ = some (.pointer (some ⟨d, 0, none⟩))) (hm : m ≤ nm n) :
    Calls Tryd.prog 47 #[.int .i64 m, .pointer (some ⟨c, 0, none⟩)] w fun e w' => e = .returned (.int .i64 (ah V n m : Nat)) ∧ ∃ j, w' = w.drewN j := by
  obtain ⟨v, c1, hi⟩ := h.c1
  obtain ⟨am, cm, rfl⟩ := hi.shape
  obtain ⟨gm, rfl, hgm⟩ := hi.at (by omega)
  have hl : w.cell? ⟨gm, m, none⟩ = some (.int .i64 (ah V n m : Nat)) := hgm m (by omega)
  have i2 : m < nm n + 1 := by omega
  generalize nm n + 1 = K at *
  clear h hi hgm hm
  go_enter Tryd.func47, Tryd.ntmps47
  go_wp2
  go_ret
  exact ⟨rfl, 0, rfl⟩

/-- How many noughts lie ahead of a mark. -/
theorem ah_flip (V n m : Nat) (h : V < 2 ^ n) : ((min (512 * m) n : Nat) : Int) - (mk V n m : Nat) = (ah (flipV V (nw n)) n m : Nat) := by
  have hn : n ≤ 64 * nw n := by unfold nw; omega
  have hV : V < 2 ^ (64 * nw n) := Nat.lt_of_lt_of_le h (Nat.pow_le_pow_right (by decide) hn)
  unfold ah mk
  rw [flip_rk hV _ (by omega)]
  have := rk_le V (min (512 * m) n)
  omega

set_option maxHeartbeats 800000 in
set_option maxRecDepth 1000000 in
theorem zero_ahead (d V n m c : Nat) (w : World) (h : DirRd w d V n) (hc : w.cell? ⟨c, 0, none⟩ = some (.pointer (some ⟨d, 0, none⟩))) (hm : m ≤ nm n) :
    Calls Tryd.prog 68 #[.int .i64 m, .pointer (some ⟨c, 0, none⟩)] w fun e w' => e = .returned (.int .i64 (ah (flipV V (nw n)) n m : Nat)) ∧ ∃ j, w' = w.drewN j := by
  have c2 := h.c2
  have hfl := ah_flip V n m h.fit
  obtain ⟨v, c1, hi⟩ := h.c1
  obtain ⟨am, cm, rfl⟩ := hi.shape
  obtain ⟨gm, rfl, hgm⟩ := hi.at (by omega)
  have hl := hgm m (by omega)
  have hb := h.len
  have hmb : m ≤ 2147483649 := by unfold nm nw at hm; omega
  have i2 : m < nm n + 1 := by omega
  have hle : mk V n m ≤ n := Nat.le_trans (rk_le _ _) (by omega)
  obtain ⟨q, hq⟩ : ∃ q, min (512 * m) n = q := ⟨_, rfl⟩
  have e1 : min ((m : Int) * 512) (n : Int) = q := by omega
  have hqn : q ≤ n := by omega
  rw [hq] at hfl
  have i3 : IntKind.i64.wrap ((m : Int) * 512) = (m : Int) * 512 := by rw [IntKind.wrap_i64]; omega
  generalize nm n + 1 = K at *
  generalize mk V n m = R at *
  have hAn := ah_le (flipV V (nw n)) n m
  generalize ah (flipV V (nw n)) n m = A at *
  have i4 : IntKind.i64.wrap (A : Int) = A := by rw [IntKind.wrap_i64]; omega
  clear h hi hgm hm hq
  go_enter Tryd.func68, Tryd.ntmps68
  go_wp2
  go_quiet (fail)
  go_wp2
  go_ret
  exact ⟨rfl, _, rfl⟩

end Go.Proofs.YtgcaenpflndibaaDoor
