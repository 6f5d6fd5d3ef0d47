/-
  block: the document's Used, Has, Write, Read, Free.
-/
import Derived.Test.YtpmgojnlbmiaeaaBlkJ
namespace Go.Proofs.Ytpmgojnlbmiaeaa
open Go.RowKit

theorem cnt_succ (tk : Nat → Bool) (k : Nat) : cnt tk (k + 1) = cnt tk k + if tk k then 1 else 0 := rfl
section
variable {w : World} {base x size most n N p : Nat} {vt vk : Value} {tk : Nat → Bool} {u : Nat → List UInt8}
set_option maxHeartbeats 1000000 in
set_option maxRecDepth 1000000 in
theorem rd_Used (h : Doc w base x size most n N p vt vk tk u) (hN : N ≤ 1048576) :
    Calls Try.prog 10 #[.pointer (some ⟨x, 0, none⟩)] w fun e w' => e = .returned (.int .i64 (cnt tk N)) ∧ w' = w := by
  obtain ⟨_, _, _, c3, _⟩ := wcells5 h.box
  obtain ⟨ao, cap, rfl⟩ := shape_any h.tak
  have hcell : ∀ k, k < N → ∃ g, ao = some ⟨g, 0, none⟩ ∧ w.cell? ⟨g, k, none⟩ = some (.bool (tk k)) := fun k hk => by
    obtain ⟨g, c, cur, he, _⟩ := shape_some h.tak (by omega)
    simp only [Value.slice.injEq, true_and] at he
    obtain ⟨rfl, rfl⟩ := he
    exact ⟨g, rfl, (h.cellK hk).1⟩
  have HC := Hid.mk hcell
  clear h hcell
  go_enter Try.func10, Try.ntmps10
  go_wp2
  go_loopw [3, 4] (fun nv iv wr => ∃ k : Nat, k ≤ N ∧ iv = .int .i64 k ∧ nv = .int .i64 (cnt tk k) ∧ wr = w) (fun _ iv _ => N - (intOf iv).toNat)
  case atStart => exact ⟨0, Nat.zero_le _, rfl, rfl, rfl⟩
  case round =>
    obtain ⟨k, hk, rfl, rfl, rfl⟩ := hrel
    have hc := cnt_le tk k
    by_cases hlt : k < N
    · obtain ⟨g, rfl, ck⟩ := HC.out k hlt
      have hs := cnt_succ tk k
      obtain ⟨M, hM⟩ : ∃ M, cnt tk k = M := ⟨_, rfl⟩
      rw [hM] at hs hc ⊢
      cases e : tk k with
      | true =>
        rw [e] at ck hs
        simp only [if_true] at hs
        clear hM e
        go_wp2
        exact ⟨⟨k + 1, by omega, by go_num, by rw [hs]; go_num, trivial⟩, by simp [intOf]; omega⟩
      | false =>
        rw [e] at ck hs
        simp only [Bool.false_eq_true, if_false, Nat.add_zero] at hs
        clear hM e
        go_wp2
        exact ⟨⟨k + 1, by omega, by go_num, by rw [hs], trivial⟩, by simp [intOf]; omega⟩
    · obtain rfl : k = N := by omega
      go_wp2
      go_ret
      exact ⟨rfl, rfl⟩

set_option maxRecDepth 1000000 in
theorem rd_Has_no (h : Doc w base x size most n N p vt vk tk u) (hN : N ≤ 1048576) (id : Int) (hn : ¬ Has N tk id) (h1 : -9223372036854775808 ≤ id) (h2 : id ≤ 9223372036854775807) :
    Calls Try.prog 24 #[.pointer (some ⟨x, 0, none⟩), .int .i64 id] w fun e w' => e = .returned (.bool false) ∧ w' = w := by
  obtain ⟨_, _, _, c3, _⟩ := wcells5 h.box
  by_cases ha : id < 0
  · have ha' : ¬ 0 ≤ id := by omega
    obtain ⟨ao, c, rfl⟩ := shape_any h.tak
    clear h hn
    go_enter Try.func24, Try.ntmps24
    go_wp2
    go_ret
    exact ⟨rfl, rfl⟩
  · by_cases hb : (N : Int) ≤ id
    · obtain ⟨ao, c, rfl⟩ := shape_any h.tak
      clear h hn
      go_enter Try.func24, Try.ntmps24
      go_wp2
      go_ret
      exact ⟨rfl, rfl⟩
    · obtain ⟨k, rfl⟩ : ∃ k : Nat, id = k := ⟨id.toNat, by omega⟩
      have hk : k < N := by omega
      obtain ⟨g, cap, cur, rfl, _⟩ := shape_some h.tak (by omega)
      obtain ⟨ck, _⟩ := h.cellK hk
      have ht : tk k = false := by
        cases e : tk k with
        | false => rfl
        | true => exact absurd ⟨by omega, by omega, by simpa using e⟩ hn
      rw [ht] at ck
      clear h hn
      go_enter Try.func24, Try.ntmps24
      go_wp2
      go_ret
      exact ⟨rfl, rfl⟩
theorem rd_Has_yes (h : Doc w base x size most n N p vt vk tk u) (hN : N ≤ 1048576) {k : Nat} (hk : k < N) (ht : tk k = true) :
    Calls Try.prog 24 #[.pointer (some ⟨x, 0, none⟩), .int .i64 k] w fun e w' => e = .returned (.bool true) ∧ w' = w := by
  obtain ⟨_, _, _, c3, _⟩ := wcells5 h.box
  obtain ⟨g, cap, cur, rfl, _⟩ := shape_some h.tak (by omega)
  obtain ⟨ck, _⟩ := h.cellK hk
  rw [ht] at ck
  clear h
  go_enter Try.func24, Try.ntmps24
  go_wp2
  go_ret
  exact ⟨rfl, rfl⟩

set_option maxRecDepth 1000000 in
theorem rd_Write_no (h : Doc w base x size most n N p vt vk tk u) (hN : N ≤ 1048576) (id : Int) (hn : ¬ Has N tk id) (h1 : -9223372036854775808 ≤ id) (h2 : id ≤ 9223372036854775807) (s : Value) :
    Calls Try.prog 20 #[.pointer (some ⟨x, 0, none⟩), .int .i64 id, s] w fun e w' => e = .returned (.int .i64 7) ∧ w' = w := by
  have hhs := rd_Has_no h hN id hn h1 h2
  clear h hn
  go_enter Try.func20, Try.ntmps20
  go_wp2_with (go_at_call 24; refine hhs.mono ?_; rintro e w1 ⟨rfl, hw'⟩; subst w1)
  go_ret
  exact ⟨rfl, rfl⟩
set_option maxRecDepth 1000000 in
theorem rd_Write_long (h : Doc w base x size most n N p vt vk tk u) (hN : N ≤ 1048576) {k : Nat} (hk : k < N) (ht : tk k = true) (t : List UInt8) (hl : size < t.length) :
    Calls Try.prog 20 #[.pointer (some ⟨x, 0, none⟩), .int .i64 k, .string (bs t)] w fun e w' => e = .returned (.int .i64 5) ∧ w' = w := by
  have hhs := rd_Has_yes h hN hk ht
  obtain ⟨c0, _⟩ := wcells5 h.box
  have hsz : (bs t).size = t.length := bs_size t
  generalize t.length = L at *
  clear h ht
  go_enter Try.func20, Try.ntmps20
  go_wp2_with (go_at_call 24; refine hhs.mono ?_; rintro e w1 ⟨rfl, hw'⟩; subst w1)
  go_ret
  exact ⟨rfl, rfl⟩
set_option maxRecDepth 1000000 in
theorem rd_Write (h : Doc w base x size most N N p vt vk tk u) (hN : N ≤ 1048576) {k : Nat} (hk : k < N) (ht : tk k = true) (t : List UInt8) (hl : t.length ≤ size) :
    Calls Try.prog 20 #[.pointer (some ⟨x, 0, none⟩), .int .i64 k, .string (bs t)] w fun e w' => e = .returned (.int .i64 0) ∧ Doc w' base x size most N N p vt vk tk (upd u k t) ∧ KeepsT DT base w w' := by
  have hhs := rd_Has_yes h hN hk ht
  obtain ⟨c0, _, c2, _⟩ := wcells5 h.box
  have hsz : (bs t).size = t.length := bs_size t
  obtain ⟨g, cap, cur, rfl, _⟩ := shape_some h.txt (by omega)
  obtain ⟨ck, fk⟩ := h.cellT hk
  have H := Hid.mk (h.setT k t)
  generalize t.length = L at *
  clear h ht
  go_enter Try.func20, Try.ntmps20
  go_wp2_with (go_at_call 24; refine hhs.mono ?_; rintro e w1 ⟨rfl, hw'⟩; subst w1)
  go_ret
  exact ⟨rfl, H.out.1, H.out.2⟩
set_option maxRecDepth 1000000 in
theorem rd_Read_no (h : Doc w base x size most n N p vt vk tk u) (hN : N ≤ 1048576) (id : Int) (hn : ¬ Has N tk id) (h1 : -9223372036854775808 ≤ id) (h2 : id ≤ 9223372036854775807) :
    Calls Try.prog 14 #[.pointer (some ⟨x, 0, none⟩), .int .i64 id] w fun e w' => e = .returned (.tuple #[.string (bs []), .int .i64 7]) ∧ w' = w := by
  have hhs := rd_Has_no h hN id hn h1 h2
  clear h hn
  go_enter Try.func14, Try.ntmps14
  go_wp2_with (go_at_call 24; refine hhs.mono ?_; rintro e w1 ⟨rfl, hw'⟩; subst w1)
  go_ret2
  exact ⟨rfl, rfl⟩
set_option maxRecDepth 1000000 in
theorem rd_Read (h : Doc w base x size most N N p vt vk tk u) (hN : N ≤ 1048576) {k : Nat} (hk : k < N) (ht : tk k = true) :
    Calls Try.prog 14 #[.pointer (some ⟨x, 0, none⟩), .int .i64 k] w fun e w' => e = .returned (.tuple #[.string (bs (u k)), .int .i64 0]) ∧ w' = w := by
  have hhs := rd_Has_yes h hN hk ht
  obtain ⟨_, _, c2, _⟩ := wcells5 h.box
  obtain ⟨g, cap, cur, rfl, _⟩ := shape_some h.txt (by omega)
  obtain ⟨ck, _⟩ := h.cellT hk
  clear h ht
  go_enter Try.func14, Try.ntmps14
  go_wp2_with (go_at_call 24; refine hhs.mono ?_; rintro e w1 ⟨rfl, hw'⟩; subst w1)
  go_ret2
  exact ⟨rfl, rfl⟩
set_option maxRecDepth 1000000 in
theorem rd_Free_no (h : Doc w base x size most n N p vt vk tk u) (hN : N ≤ 1048576) (id : Int) (hn : ¬ Has N tk id) (h1 : -9223372036854775808 ≤ id) (h2 : id ≤ 9223372036854775807) :
    Calls Try.prog 21 #[.pointer (some ⟨x, 0, none⟩), .int .i64 id] w fun e w' => e = .returned (.int .i64 7) ∧ w' = w := by
  have hhs := rd_Has_no h hN id hn h1 h2
  clear h hn
  go_enter Try.func21, Try.ntmps21
  go_wp2_with (go_at_call 24; refine hhs.mono ?_; rintro e w1 ⟨rfl, hw'⟩; subst w1)
  go_ret
  exact ⟨rfl, rfl⟩
set_option maxRecDepth 1000000 in
theorem rd_Free (h : Doc w base x size most N N p vt vk tk u) (hN : N ≤ 1048576) {k : Nat} (hk : k < N) (ht : tk k = true) :
    Calls Try.prog 21 #[.pointer (some ⟨x, 0, none⟩), .int .i64 k] w fun e w' => e = .returned (.int .i64 0) ∧ Doc w' base x size most N N p vt vk (upd tk k false) u ∧ KeepsT DT base w w' := by
  have hhs := rd_Has_yes h hN hk ht
  obtain ⟨_, _, _, c3, _⟩ := wcells5 h.box
  obtain ⟨g, cap, cur, rfl, _⟩ := shape_some h.tak (by omega)
  obtain ⟨ck, fk⟩ := h.cellK hk
  have H := Hid.mk (h.setK k false)
  clear h ht
  go_enter Try.func21, Try.ntmps21
  go_wp2_with (go_at_call 24; refine hhs.mono ?_; rintro e w1 ⟨rfl, hw'⟩; subst w1)
  go_ret
  exact ⟨rfl, H.out.1, H.out.2⟩
end
end Go.Proofs.Ytpmgojnlbmiaeaa
