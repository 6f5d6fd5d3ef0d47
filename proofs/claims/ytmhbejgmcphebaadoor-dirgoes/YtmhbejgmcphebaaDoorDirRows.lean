/-
  How rows of some length come about: the document's Row, the law's Row, Bits and Small.
-/
import Derived.Test.YtmhbejgmcphebaaDoorDirRef
import Derived.StillTailTactics
namespace Go.Proofs.YtmhbejgmcphebaaDoor
open Go.RowKit

/-- Words that are there again and again. -/
def turn (f : Nat → Nat) (L j : Nat) : Nat := f (j % L)
theorem turn_at (f : Nat → Nat) (L k i : Nat) (h : i < L) : turn f L (L * k + i) = f i := by
  unfold turn; rw [Nat.mul_add_mod, Nat.mod_eq_of_lt h]
theorem turn_lt (f : Nat → Nat) (L j : Nat) (hL : 0 < L) (hf : ∀ j, j < L → f j < 18446744073709551616) : turn f L j < 18446744073709551616 := hf _ (Nat.mod_lt _ hL)
/-- M of them, as a number. -/
def turnV (f : Nat → Nat) (L M : Nat) : Nat := ofW (turn f L) M
theorem turnV_lt (f : Nat → Nat) (L M : Nat) (hf : ∀ j, j < L → f j < 18446744073709551616) (h : L = 0 → M = 0) : turnV f L M < 2 ^ (64 * M) := by
  by_cases hL : L = 0
  · rw [h hL]; simp [turnV, ofW]
  · exact ofW_lt _ _ fun j _ => turn_lt f L j (by omega) hf
theorem turnV_succ (f : Nat → Nat) (L k i : Nat) (h : i < L) : turnV f L (L * k + i + 1) = cat (turnV f L (L * k + i)) (64 * (L * k + i)) (f i) := by
  rw [turnV, ofW, turn_at f L k i h]; rfl

theorem Rd.cell {w w' : World} {ao : Option Addr} {K cap : Nat} {f : Nat → Nat} (h : Rd w (.slice ao K cap) K f) (k : Nat) (hk : k < K) : ∃ g o, ao = some ⟨g, o, none⟩ ∧ (More w w' → w'.cell? ⟨g, o + k, none⟩ = some (.int .u64 (f k : Nat))) := by
  rcases h with ⟨rfl, _⟩ | ⟨g, o, cap', h, hg, hc⟩
  · omega
  · simp at h
    exact ⟨g, o, h.1, fun m => (m.cell (p := ⟨g, o + k, none⟩) hg).trans (hc k hk)⟩

theorem own_lower {w : World} {base base' : Nat} {e : TypeId} {size : Nat} {v : Value} {n : Nat} {xs : List Value} (h : w.ownsRow base e size v n xs) (hb : base' ≤ base) : w.ownsRow base' e size v n xs := by
  refine ⟨h.1, ?_⟩
  rcases h.2 with h2 | ⟨g, cap, cur, hv, hg, hr⟩
  · exact .inl h2
  · exact .inr ⟨g, cap, cur, hv, Nat.le_trans hb hg, hr⟩

/-- The row's bits behind the words. -/
def rowV (f : Nat → Nat) (L T x N : Nat) : Nat := cat (turnV f L (L * T)) (64 * (L * T)) (x % 2 ^ N)
def rowN (L T N : Nat) : Nat := 64 * (L * T) + N
theorem mul_le_240 {L T : Nat} (hL : L ≤ 6) (hT : T ≤ 40) : L * T ≤ 240 := Nat.mul_le_mul hL hT
theorem rowN_le {L T N : Nat} (hL : L ≤ 6) (hT : T ≤ 40) (hN : N ≤ 64) : rowN L T N ≤ 15424 := by have := mul_le_240 hL hT; unfold rowN; omega
theorem rowV_lt {f : Nat → Nat} {L T x N : Nat} (hf : ∀ j, j < L → f j < 18446744073709551616) : rowV f L T x N < 2 ^ rowN L T N :=
  cat_lt (turnV_lt f L (L * T) hf (fun h => by rw [h, Nat.zero_mul])) (Nat.mod_lt _ (Nat.two_pow_pos N))

set_option maxHeartbeats 800000 in
set_option maxRecDepth 1000000 in
theorem ref_row (v : Value) (L T x N : Nat) (f : Nat → Nat) (w : World) (h : Rd w v L f) (hf : ∀ j, j < L → f j < 18446744073709551616) (hL : L ≤ 6) (hT : T ≤ 40) (hx : x < 18446744073709551616) (hN : N ≤ 64) :
    Calls Tryd.prog 21 #[v, .int .i64 T, .int .u64 x, .int .i64 N] w fun e w' => ∃ v', e = .returned v' ∧ w'.ownsRow w.heap.size 4 1 v' (64 * (L * T) + N) (bools (cat (turnV f L (L * T)) (64 * (L * T)) x) (64 * (L * T) + N)) ∧ More w w' := by
  obtain ⟨ao, cap, rfl⟩ := h.shape
  have HH : Hid _ := And.intro h hf
  clear h hf
  go_enter Tryd.func21, Tryd.ntmps21
  go_wp2
  go_loopw [9, 10] (fun l c wr => ∃ k M : Nat, k ≤ T ∧ M ≤ 240 ∧ c = .int .i64 k ∧ Hid (M = L * k) ∧ Hid (wr.ownsRow w.heap.size 4 1 l (64 * M) (bools (turnV f L M) (64 * M)) ∧ More w wr)) (fun _ c _ => T - (intOf c).toNat)
  case atStart => exact ⟨0, 0, Nat.zero_le _, Nat.zero_le _, rfl, Hid.mk (Nat.mul_zero L).symm, Hid.mk ⟨World.ownsRow_nil _ _ _ _, Below.refl _ _⟩⟩
  case round =>
    obtain ⟨k, M, hk, hM, rfl, HM, HR⟩ := hrel
    obtain ⟨al, cl, rfl⟩ := shape_of HR.out.1
    by_cases hkT : k < T
    · go_wp2
      have hLk : L * (k + 1) ≤ 240 := mul_le_240 hL (by omega)
      have HLk := Hid.mk hLk
      clear hLk
      go_loopw [9, 11] (fun l c wi => ∃ i M : Nat, i ≤ L ∧ M ≤ 240 ∧ c = .int .i64 i ∧ Hid (M = L * k + i) ∧ Hid (wi.ownsRow w.heap.size 4 1 l (64 * M) (bools (turnV f L M) (64 * M)) ∧ More w wi)) (fun _ c _ => L - (intOf c).toNat)
      case atStart => exact ⟨0, M, Nat.zero_le _, hM, rfl, Hid.mk HM.out, Hid.mk HR.out⟩
      case round =>
        obtain ⟨i, m, hi, hm, rfl, Hm, Hr⟩ := hrel
        obtain ⟨al2, cl2, rfl⟩ := shape_of Hr.out.1
        by_cases hiL : i < L
        · obtain ⟨g, o, rfl, hc⟩ := HH.out.1.cell (w' := wr) i hiL
          have hck := hc Hr.out.2
          clear hc
          have hfi := HH.out.2 i hiL
          have hV := turnV_lt f L m HH.out.2 (fun h => by omega)
          have hadd := ref_add w.heap.size (64 * m) (turnV f L m) (f i) 64 (.slice al2 (64 * m) cl2) wr Hr.out.1 hV hfi (by omega) (by omega)
          have hmb : m + 1 ≤ 240 := by have h1 := Hm.out; have h2 := HLk.out; rw [Nat.mul_succ] at h2; omega
          have hst : Hid (cat (turnV f L m) (64 * m) (f i) = turnV f L (m + 1)) := by rw [Hm.out, turnV_succ f L k i hiL]; exact Hid.mk rfl
          clear hV
          go_wp2_with (go_at_call 34; refine hadd.mono ?_; rintro e w1 ⟨v', rfl, hown, hmore⟩; have H1 := Hid.mk (And.intro (own_lower hown Hr.out.2.size) (More.trans Hr.out.2 hmore)); clear hown hmore)
          refine ⟨⟨i + 1, m + 1, by omega, hmb, by go_num, Hid.mk (by rw [Hm.out, Nat.add_assoc]), Hid.mk ⟨?_, H1.out.2⟩⟩, by simp [intOf]; omega⟩
          rw [← hst.out, Nat.mul_succ]
          exact H1.out.1
        · obtain rfl : i = L := by omega
          go_wp2
          refine ⟨⟨k + 1, m, by omega, hm, by go_num, Hid.mk (by rw [Hm.out, Nat.mul_succ]), Hid.mk Hr.out⟩, by simp [intOf]; omega⟩
    · obtain rfl : k = T := by omega
      have hV := turnV_lt f L M HH.out.2 (fun h => by rw [HM.out, h, Nat.zero_mul])
      have hadd := ref_add w.heap.size (64 * M) (turnV f L M) x N (.slice al (64 * M) cl) wr HR.out.1 hV hx (by omega) hN
      clear hV
      go_wp2_with (go_at_call 34; refine hadd.mono ?_; rintro e w1 ⟨v', rfl, hown, hmore⟩; have H1 := Hid.mk (And.intro (own_lower hown HR.out.2.size) (More.trans HR.out.2 hmore)); clear hown hmore)
      go_ret
      have hM2 := HM.out
      subst hM2
      exact ⟨_, rfl, H1.out.1, H1.out.2⟩

end Go.Proofs.YtmhbejgmcphebaaDoor
