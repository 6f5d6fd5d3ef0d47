/-
  intern: the slots from one on, as a going over that may be left early.
-/
import Derived.Test.YtiiflegfbieblaaInA
import Derived.Test.YtiiflegfbieblaaRangeSet
namespace Go.Proofs.Ytiiflegfbieblaa
open Go.RowKit Go.Shelf
attribute [local go_sem] Oper.semAt_some

theorem from_call (n : Nat) (p : Option Addr) (h : Nat) (w : World) : CallsIn Fence.wide n Try.prog 67 #[.pointer p, .int .u64 h] w fun e w' => e = .returned (.func (.func 74) #[] #[.pointer (some ⟨w.heap.size, 0, none⟩), .pointer (some ⟨w.heap.size + 1, 0, none⟩)]) ∧ w' = (w.alloc (.cells #[.pointer p] 95)).alloc (.cells #[.int .u64 h] 80) := by
  refine callsIn_of_wp Try.func67 rfl trivial ?_ rfl
  simp only [Try.ntmps67, List.size_toArray, List.length_cons, List.length_nil, Nat.reduceAdd, Nat.reduceSub, Array.replicate_succ, Array.replicate_zero, List.push_toArray, List.append_toArray, List.nil_append, List.cons_append]
  gi_wp2
  go_ret
  exact ⟨rfl, rfl⟩

abbrev encN (p : Nat) : Array Value := #[.int .i64 p]

theorem wrap_mod (y : Int) : wrap64 (IntKind.u64.wrap y) % 18446744073709551616 = y % 18446744073709551616 := by
  rw [IntKind.wrap_u64]
  unfold wrap64
  omega
theorem ring_at (a c k m : Nat) (hk : k ≤ 40) (hm : m = 2 ^ k) : bits .and .i64 (wrap64 (IntKind.u64.wrap ((a : Int) + (c : Int)))) ((m : Int) - 1) = (((a + c) % m : Nat) : Int) := by
  have h := ring (wrap64 (IntKind.u64.wrap ((a : Int) + (c : Int)))) (a + c) k (Nat.le_trans hk (by decide)) (by rw [wrap_mod, Int.natCast_add])
  subst hm
  rw [← h, Int.natCast_pow]
  rfl

/-- What the going over reads of the caller's: the pointer, the hash, how many slots there are. -/
def FromK (Bl Bh b m a : Nat) (A : World) : Prop := Boxed A Bl 95 (.pointer (some ⟨b, 0, none⟩)) ∧ Boxed A Bh 80 (.int .u64 a) ∧ ∃ ao cap, A.cell? ⟨b, 2, none⟩ = some (.slice ao m cap)

set_option maxRecDepth 1000000 in
set_option maxHeartbeats 4000000 in
theorem from_in (n : Nat) (hn : 1 ≤ n) (Bl Bh b m a lo k : Nat) (hk : k ≤ 40) (hm : m = 2 ^ k) (w : World) :
    SeqSet Fence.wide n Try.prog 74 #[.pointer (some ⟨Bl, 0, none⟩), .pointer (some ⟨Bh, 0, none⟩)] encN lo (FromK Bl Bh b m a) (fun xs => xs = prb a m m) (fun pre => ∃ c, c ≤ m ∧ pre = prb a m c) m w := by
  intro l2 J Jx W C0 hW hC0 hlo hJ hJx hKp hY h0
  have hm0 : m ≤ 1099511627776 := by rw [hm]; exact Nat.pow_le_pow_right (n := 2) (by decide) hk
  have hm1 : 1 ≤ m := by rw [hm]; exact Nat.two_pow_pos k
  obtain ⟨hb1, hb2, ao, cap, hc⟩ := hKp _ _ _ h0
  have cb := hb1.cell
  refine callsIn_of_wp Try.func74 rfl trivial ?_ rfl
  simp only [Try.ntmps74, List.size_toArray, List.length_cons, List.length_nil, Nat.reduceAdd, Nat.reduceSub, Array.replicate_succ, Array.replicate_zero, List.push_toArray, List.append_toArray, List.nil_append, List.cons_append]
  have HM := Hid.mk hm
  clear hm
  gi_wp2
  clear cb hb1 hb2 hc
  gi_loopw [12] (fun i wr => ∃ (c : Nat) (C : Nat → Prop), c ≤ m ∧ i = .int .i64 c ∧ J (prb a m c) C wr ∧ Within C wr ∧ W.heap.size ≤ wr.heap.size)
    (fun i _ => m - (intOf i).toNat)
  case atStart => exact ⟨0, C0, by omega, rfl, h0, hC0, Nat.le_refl _⟩
  case round =>
    obtain ⟨c, C, hcm, rfl, hJs, hWi, hsW⟩ := hrel
    clear h0
    by_cases hlt : c < m
    · have c2 := (hKp _ _ _ hJs).2.1.cell
      obtain ⟨fn, tmps, assign, body, hy, hRd⟩ := hY (prb a m c) ((a + c) % m) wr C ⟨c + 1, by omega, (prb_succ a m c).symm⟩ hJs hWi hsW (by rw [prb_len]; exact hlt)
      dsimp only [encN] at hy
      have HJ := Hid.mk hJs
      have hr := ring_at a c k m hk HM.out
      obtain ⟨X, hX⟩ : ∃ X, (a + c) % m = X := ⟨_, rfl⟩
      have HS := Hid.mk (prb_succ a m c)
      rw [hX] at hr hy hRd HS
      clear hJs hY hX
      gi_wp2
      refine hRd.mono ?_
      clear hRd hy
      rintro e W3 ⟨C', (⟨rfl, hJ3, ho3⟩ | ⟨rfl, hJ3, ho3⟩)⟩
      · have HO := Hid.mk (And.intro (show J (prb a m (c + 1)) C' W3 by rw [HS.out]; exact hJ3) (And.intro (ho3.within hWi) (Nat.le_trans hsW ho3.size)))
        clear hJ3 ho3
        gi_wp2
        go_roundw
        case rel => exact ⟨c + 1, C', by omega, by go_num, HO.out.1, HO.out.2.1, HO.out.2.2⟩
        case measure => first | (simp [intOf]; done) | (simp [intOf]; omega)
      · have HO := Hid.mk (And.intro (show Jx (prb a m (c + 1)) C' W3 by rw [HS.out]; exact hJ3) (ho3.within hWi))
        clear hJ3 ho3
        gi_wp2
        refine bodyPost_ret (results_none rfl _ _ _) rfl ?_
        exact ⟨⟨_, rfl⟩, .inr ⟨_, C', ⟨c + 1, by omega, rfl⟩, HO.out.1, HO.out.2⟩⟩
    · obtain rfl : c = m := by omega
      have HJ := Hid.mk hJs
      clear hJs hY
      gi_wp2
      go_end0
      exact ⟨⟨_, rfl⟩, .inl ⟨_, C, rfl, HJ.out, hWi⟩⟩
end Go.Proofs.Ytiiflegfbieblaa
