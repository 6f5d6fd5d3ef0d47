/-
  block: a store's size, how many are taken, free, were taken; check; leastFree.
-/
import Derived.Test.YtpmgojnlbmiaeaaBlkG
namespace Go.Proofs.Ytpmgojnlbmiaeaa
open Go.RowKit

/-- A store: what lies in memory, and what is known of it. -/
structure St (w : World) (base b size most N : Nat) (vo vf : Value) (tk : Nat → Bool) (tx : Nat → List UInt8) (vb : Nat → Value) (F : List Nat) : Prop where
  mem : Sto w base b size most N vo vf tk tx vb F
  plain : Stp most N tk tx F
  sizeLe : size ≤ 65536
  mostLe : most ≤ 1048576
theorem St.more {w w' : World} {base b size most N : Nat} {vo vf : Value} {tk : Nat → Bool} {tx : Nat → List UInt8} {vb : Nat → Value} {F : List Nat} (h : St w base b size most N vo vf tk tx vb F) (k : More w w') : St w' base b size most N vo vf tk tx vb F := ⟨h.mem.more k, h.plain, h.sizeLe, h.mostLe⟩

section
variable {w : World} {base b size most N : Nat} {vo vf : Value} {tk : Nat → Bool} {tx : Nat → List UInt8} {vb : Nat → Value} {F : List Nat}
theorem st_Size (h : St w base b size most N vo vf tk tx vb F) : Calls Try.prog 15 #[.pointer (some ⟨b, 0, none⟩)] w fun e w' => e = .returned (.int .i64 size) ∧ w' = w := by
  obtain ⟨c0, _⟩ := wcells4 h.mem.box
  clear h
  go_enter Try.func15, Try.ntmps15
  go_wp2
  go_ret
  exact ⟨rfl, rfl⟩
theorem st_Peak (h : St w base b size most N vo vf tk tx vb F) : Calls Try.prog 12 #[.pointer (some ⟨b, 0, none⟩)] w fun e w' => e = .returned (.int .i64 N) ∧ w' = w := by
  obtain ⟨_, _, c2, _⟩ := wcells4 h.mem.box
  obtain ⟨ao, c, rfl⟩ := shape_any h.mem.row
  clear h
  go_enter Try.func12, Try.ntmps12
  go_wp2
  go_ret
  exact ⟨rfl, rfl⟩
theorem st_Used (h : St w base b size most N vo vf tk tx vb F) : Calls Try.prog 9 #[.pointer (some ⟨b, 0, none⟩)] w fun e w' => e = .returned (.int .i64 (cnt tk N)) ∧ ∃ q, w' = w.drewN q := by
  obtain ⟨_, _, c2, c3, _⟩ := wcells4 h.mem.box
  obtain ⟨ao, c, rfl⟩ := shape_any h.mem.row
  obtain ⟨ao', c', rfl⟩ := shape_any h.mem.free
  have hn := h.plain.num
  have hle := h.plain.le
  have hm := h.mostLe
  obtain ⟨M, hM⟩ : ∃ M, cnt tk N = M := ⟨_, rfl⟩
  rw [hM] at hn ⊢
  clear h hM
  generalize F.length = f at *
  have he : ((N : Int) - f) = (M : Int) := by omega
  go_enter Try.func9, Try.ntmps9
  go_wp2
  go_quiet (fail)
  go_wp2
  go_ret
  exact ⟨ret_i64 (by omega), nq, rfl⟩
theorem st_Left (h : St w base b size most N vo vf tk tx vb F) : Calls Try.prog 11 #[.pointer (some ⟨b, 0, none⟩)] w fun e w' => e = .returned (.int .i64 ((most : Int) - cnt tk N)) ∧ ∃ q, w' = w.drewN q := by
  have hus := fun q => st_Used (h.more (More.drewN w q))
  obtain ⟨_, c1, _⟩ := wcells4 h.mem.box
  have hm := h.mostLe
  have hle := h.plain.le
  have hc := cnt_le tk N
  obtain ⟨M, hM⟩ : ∃ M, cnt tk N = M := ⟨_, rfl⟩
  rw [hM] at hus hc ⊢
  clear h hM
  go_enter Try.func11, Try.ntmps11
  go_wp2
  go_quiet ((go_at_call 9; exact Calls.quiet_of (hus _)))
  go_wp2
  go_ret
  exact ⟨rfl, nq, rfl⟩
/-- May the text of a block be asked for? -/
def Has (N : Nat) (tk : Nat → Bool) (id : Int) : Prop := 0 ≤ id ∧ id < N ∧ tk id.toNat = true
theorem st_check_no (h : St w base b size most N vo vf tk tx vb F) (id : Int) (hn : ¬ Has N tk id) (h1 : -9223372036854775808 ≤ id) (h2 : id ≤ 9223372036854775807) :
    Calls Try.prog 22 #[.pointer (some ⟨b, 0, none⟩), .int .i64 id] w fun e w' => e = .returned (.int .i64 7) ∧ w' = w := by
  obtain ⟨_, _, c2, _⟩ := wcells4 h.mem.box
  have hle := h.plain.le
  have hm := h.mostLe
  by_cases ha : id < 0
  · obtain ⟨ao, c, rfl⟩ := shape_any h.mem.row
    clear h hn
    go_enter Try.func22, Try.ntmps22
    go_wp2
    go_ret
    exact ⟨rfl, rfl⟩
  · by_cases hb : (N : Int) ≤ id
    · obtain ⟨ao, c, rfl⟩ := shape_any h.mem.row
      clear h hn
      go_enter Try.func22, Try.ntmps22
      go_wp2
      go_ret
      exact ⟨rfl, rfl⟩
    · obtain ⟨k, rfl⟩ : ∃ k : Nat, id = k := ⟨id.toNat, by omega⟩
      have hk : k < N := by omega
      obtain ⟨g, cap, cur, rfl, _⟩ := shape_some h.mem.row (by omega)
      obtain ⟨ck, _, _, _⟩ := h.mem.cell hk
      have ht : tk k = false := by
        cases e : tk k with
        | false => rfl
        | true => exact absurd ⟨by omega, by omega, by simpa using e⟩ hn
      rw [ht] at ck
      clear h hn
      go_enter Try.func22, Try.ntmps22
      go_wp2
      go_ret
      exact ⟨rfl, rfl⟩
theorem st_check_yes (h : St w base b size most N vo vf tk tx vb F) {k : Nat} (hk : k < N) (ht : tk k = true) :
    Calls Try.prog 22 #[.pointer (some ⟨b, 0, none⟩), .int .i64 k] w fun e w' => e = .returned (.int .i64 0) ∧ w' = w := by
  obtain ⟨_, _, c2, _⟩ := wcells4 h.mem.box
  have hle := h.plain.le
  have hm := h.mostLe
  obtain ⟨g, cap, cur, rfl, _⟩ := shape_some h.mem.row (by omega)
  obtain ⟨ck, _, _, _⟩ := h.mem.cell hk
  rw [ht] at ck
  clear h
  go_enter Try.func22, Try.ntmps22
  go_wp2
  go_ret
  exact ⟨rfl, rfl⟩

theorem three_cell (w : World) (x y z : Value) (e : TypeId) : ∀ (j : Nat) u, [x, y, z][j]? = some u → (w.alloc (.cells #[x, y, z] e)).cell? ((⟨w.heap.size, 0, none⟩ : Addr).add j) = some u := by
  intro j u hj
  have h := heap_alloc_new w (.cells #[x, y, z] e)
  rw [show (⟨w.heap.size, 0, none⟩ : Addr).add j = ⟨w.heap.size, j, none⟩ by simp [Addr.add]; omega]
  simp only [World.cell?, h]
  simpa using hj

/-- What leastFree leaves behind: the block a is the first free one, not yet taken. -/
structure Opens (w w' : World) (base b size most N : Nat) (tk : Nat → Bool) (tx : Nat → List UInt8) (a : Nat) : Prop where
  first : First tk N a
  keeps : KeepsT BT base w w'
  mem : ∃ N' vo' vf' tk' vb' G, N' = max N (a + 1) ∧ Sto w' base b size most N' vo' vf' tk' (upd tx a []) vb' G ∧ upd tk' a true = upd tk a true ∧ Stp most N' (upd tk a true) (upd tx a []) G

set_option maxHeartbeats 2000000 in
set_option maxRecDepth 1000000 in
theorem st_leastFree (h : St w base b size most N vo vf tk tx vb F) (hc : cnt tk N < most) :
    Calls Try.prog 25 #[.pointer (some ⟨b, 0, none⟩)] w fun e w' => ∃ a : Nat, e = .returned (.int .i64 a) ∧ Opens w w' base b size most N tk tx a := by
  have has := fun v => as_int v
  obtain ⟨_, _, c2, c3, f2, f3⟩ := wcells4 h.mem.box
  have hle := h.plain.le
  have hmo := h.mostLe
  have hnum := h.plain.num
  by_cases h0 : F = []
  · subst h0
    obtain ⟨i0, hi, hz0, hz1, hz2⟩ := info_parts Try.infoBlk
    have hfr := h.plain.firstN
    have hN : N < most := by
      rw [cnt_all hfr.2.1] at hc; exact hc
    obtain ⟨ao', c', rfl⟩ := shape_any h.mem.free
    obtain ⟨ao, c, rfl⟩ := shape_any h.mem.row
    have c3 : w.cell? ⟨b, 3, none⟩ = some (.slice ao' 0 c') := c3
    have hlb : b < w.heap.size := lt_of_block h.mem.box
    have H := Hid.mk (And.intro h (And.intro hfr hN))
    clear h hfr hN hnum hc
    go_enter Try.func25, Try.ntmps25
    go_wp2_with (at_builtin; refine wpList_append_own_at _ rfl (.tmp 19) (.tmp 21) 48 rfl base 59 i0 (.agg #[.bool false, .slice none 0 0, .int .i64 0]) 3 40 Try.underlying48 hi hz0 hz1 hz2 rfl (by decide) _ _ _ rfl (H.out.1.mem.row.alloc _) ⟨w.heap.size, 0, none⟩ 1 1 [.bool false, .slice none 0 0, .int .i64 0] rfl rfl (three_cell _ _ _ _ _) (by intro u hu; simp at hu; rcases hu with rfl | rfl | rfl <;> rfl) (by unfold maxLen; omega) (by omega) (by have := H.out.1.mem.sz; simp; omega) ?_; intro v2 w2 hown2 hg2 _ _; obtain ⟨a2, cc, rfl⟩ := shape_any hown2; have hg3 := (World.grownBy_alloc w _ (Value.slice ao N c).ownBlock).trans hg2; obtain ⟨hS3, hK3⟩ := H.out.1.mem.grown hg3 hown2; have hb2 := (hg3.block b hlb (fun e => own_off H.out.1.mem.row H.out.1.mem.box (by decide) e.symm)).trans H.out.1.mem.box; obtain ⟨_, _, d2, _, e2, _⟩ := wcells4 hb2; obtain ⟨_, _, d3, _⟩ := wcells4 (wset4_2 (z := .slice a2 (N + 1) cc) hb2); have H3 := Hid.mk (And.intro hS3 hK3); clear hS3 hK3 hg3 hg2 hown2 hb2)
    go_ret
    refine ⟨N, ret_i64 (by omega), H.out.2.1, H3.out.2, N + 1, _, _, _, _, _, by omega, H3.out.1, by rw [upd_upd], ?_⟩
    exact H.out.1.plain.more H.out.2.2
  · obtain ⟨m, hm⟩ : ∃ m, F.length = m + 1 := ⟨F.length - 1, by cases F with | nil => exact absurd rfl h0 | cons _ _ => simp⟩
    obtain ⟨g, cap, cur, rfl, _⟩ := shape_some h.mem.free (by omega)
    have hfi := h.plain.first (by omega)
    have hpp := hp_Pop w base b N g cap size most vo tk tx vb F m hm (by omega) (by rw [← hm]; exact h.mem) h.plain.heap
    rw [hm] at c3
    obtain ⟨ao, c, rfl⟩ := shape_any h.mem.row
    obtain ⟨a, ha⟩ : ∃ a, F.getD 0 0 = a := ⟨_, rfl⟩
    rw [ha] at hfi hpp
    have H := Hid.mk (And.intro h hfi)
    clear h hfi hnum hc ha hm
    go_enter Try.func25, Try.ntmps25
    go_wp2_with (go_at_call 29; refine hpp.mono ?_; clear hpp; rintro e w2 ⟨rfl, G, hS2, hP2, hG2, hK2⟩; have H2 := Hid.mk (And.intro hS2 (And.intro hP2 (And.intro hG2 hK2))); clear hS2 hP2 hG2 hK2)
    go_ret
    have hux : upd tx a [] = tx := by
      rw [← H.out.1.plain.none a H.out.2.2.1 H.out.2.2.2]; exact upd_same _ _
    refine ⟨a, rfl, H.out.2.1, H2.out.2.2.2, N, _, _, _, _, _, by have := H.out.2.2.1; omega, by rw [hux]; exact H2.out.1, rfl, ?_⟩
    rw [hux]
    exact H.out.1.plain.pop H2.out.2.1 H2.out.2.2.1
end
end Go.Proofs.Ytpmgojnlbmiaeaa
