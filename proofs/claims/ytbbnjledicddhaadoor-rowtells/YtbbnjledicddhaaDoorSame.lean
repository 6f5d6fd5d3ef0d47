/-
  bitrow's Same: have two rows the same bits?
-/
import Derived.Test.YtbbnjledicddhaaDoorRead
import Derived.Deep.RegionWith
namespace Go.Proofs.YtbbnjledicddhaaDoor
open Go.RowKit

/-- What a row's pointer tells of its length; nil has none. -/
def PtrLen (w : World) (p : Value) (n : Nat) : Prop := (p = .pointer none ∧ n = 0) ∨ ∃ b, p = .pointer (some ⟨b, 0, none⟩) ∧ w.cell? ⟨b, 1, none⟩ = some (.int .i64 n)

theorem len_any (p : Value) (n : Nat) (w : World) (h : PtrLen w p n) : Calls Tryd.prog 9 #[p] w fun e w' => e = .returned (.int .i64 n) ∧ w' = w := by
  rcases h with ⟨rfl, rfl⟩ | ⟨b, rfl, c⟩
  · exact nil_len w
  · exact row_len b n w c

/-- Rows of unlike lengths, and rows without bits. -/
theorem same_short (p q : Value) (n m : Nat) (w : World) (hp : PtrLen w p n) (hq : PtrLen w q m) (h : n ≠ m ∨ n = 0) (hn : n ≤ 1099511627776) :
    Calls Tryd.prog 23 #[p, q] w fun e w' => e = .returned (.bool (decide (n = m))) ∧ w' = w := by
  have HP : Hid _ := hp
  have HQ : Hid _ := hq
  clear hp hq
  by_cases he : n = m
  · have hwo : ∀ w, Calls Tryd.prog 34 #[.int .i64 n] w fun e w' => e = .returned (.int .i64 0) ∧ w' = w := fun w => by
      have := wordsOf n (by omega) w
      rwa [show nw n = 0 by unfold nw; omega] at this
    rw [show decide (n = m) = true by simp [he]]
    have hne : ((n : Int) != (m : Int)) = false := by simp; omega
    clear h he
    go_enter Tryd.func23, Tryd.ntmps23
    go_wp2_with (first
      | (go_at_call_of 9 p; refine (len_any p n _ HP.out).mono ?_; rintro e w' ⟨rfl, rfl⟩)
      | (go_at_call_of 9 q; refine (len_any q m _ HQ.out).mono ?_; rintro e w' ⟨rfl, rfl⟩)
      | (go_at_call 34; refine (hwo _).mono ?_; rintro e w' ⟨rfl, rfl⟩))
    refine wp_loop_rounds 1 ?_; rw [rounds_succ]; go_wp2
    go_ret
    exact ⟨rfl, rfl⟩
  · rw [show decide (n = m) = false by simp [he]]
    have hne : ((n : Int) != (m : Int)) = true := by simp; omega
    clear h he
    go_enter Tryd.func23, Tryd.ntmps23
    go_wp2_with (first
      | (go_at_call_of 9 p; refine (len_any p n _ HP.out).mono ?_; rintro e w' ⟨rfl, rfl⟩)
      | (go_at_call_of 9 q; refine (len_any q m _ HQ.out).mono ?_; rintro e w' ⟨rfl, rfl⟩))
    go_ret
    exact ⟨rfl, rfl⟩

theorem PtrLen.row {w : World} {b V n : Nat} (h : RowRd w b V n) : PtrLen w (.pointer (some ⟨b, 0, none⟩)) n := .inr ⟨b, rfl, h.c1⟩
theorem PtrLen.none (w : World) : PtrLen w (.pointer none) 0 := .inl ⟨rfl, rfl⟩

set_option maxHeartbeats 800000 in
theorem same_long (b V n c U : Nat) (w : World) (h : RowRd w b V n) (h' : RowRd w c U n) (h0 : n ≠ 0) :
    Calls Tryd.prog 23 #[.pointer (some ⟨b, 0, none⟩), .pointer (some ⟨c, 0, none⟩)] w fun e w' => e = .returned (.bool (decide (V = U))) ∧ ∃ m, w' = w.drewN m := by
  have hlen := h.len
  have c1 := h.c1
  have c1' := h'.c1
  obtain ⟨K, hK⟩ : ∃ K, nw n = K := ⟨_, rfl⟩
  have hK0 : 0 < K := by unfold nw at hK; omega
  have hKl : K ≤ 1099511627776 := by unfold nw at hK; omega
  obtain ⟨g, cap, c0, hc⟩ : ∃ g cap, w.cell? ⟨b, 0, none⟩ = some (.slice (some ⟨g, 0, none⟩) K cap) ∧ ∀ j, j < K → w.cell? ⟨g, j, none⟩ = some (.int .u64 (wd V j : Nat)) := by
    rcases h.c0 with ⟨hz, _⟩ | h
    · omega
    · rw [hK] at h; exact h
  obtain ⟨g', cap', c0', hc'⟩ : ∃ g cap, w.cell? ⟨c, 0, none⟩ = some (.slice (some ⟨g, 0, none⟩) K cap) ∧ ∀ j, j < K → w.cell? ⟨g, j, none⟩ = some (.int .u64 (wd U j : Nat)) := by
    rcases h'.c0 with ⟨hz, _⟩ | h
    · omega
    · rw [hK] at h; exact h
  have hwo : ∀ w, Calls Tryd.prog 34 #[.int .i64 n] w fun e w' => e = .returned (.int .i64 K) ∧ w' = w := fun w => by rw [← hK]; exact wordsOf n (by omega) w
  have HH : Hid ((∀ j, j < K → wd V j = wd U j) → V = U) := fun hh => eq_of_words h.fit h'.fit (by rw [hK]; exact hh)
  clear h h' hK h0
  · have HC : Hid _ := And.intro hc hc'
    clear hc hc'
    go_enter Tryd.func23, Tryd.ntmps23
    go_wp2_with (first
      | (go_at_call_of 9 (Value.pointer (some ⟨b, 0, none⟩)); refine (row_len b n _ c1).mono ?_; rintro e w' ⟨rfl, rfl⟩)
      | (go_at_call_of 9 (Value.pointer (some ⟨c, 0, none⟩)); refine (row_len c n _ c1').mono ?_; rintro e w' ⟨rfl, rfl⟩)
      | (go_at_call 34; refine (hwo _).mono ?_; rintro e w' ⟨rfl, rfl⟩))
    go_loopw [14] (fun i wr => ∃ k : Nat, k ≤ K ∧ i = .int .i64 k ∧ (∃ m, wr = w'.drewN m) ∧ Hid (∀ j, j < k → wd V j = wd U j)) (fun i _ => K - (intOf i).toNat)
    case atStart => exact ⟨0, Nat.zero_le _, rfl, ⟨0, rfl⟩, Hid.mk fun j hj => by omega⟩
    case round =>
      obtain ⟨k, hk, rfl, ⟨m, rfl⟩, hw⟩ := hrel
      have hck : k < K → w'.cell? ⟨g, k, none⟩ = some (.int .u64 (wd V k : Nat)) := HC.out.1 k
      have hck' : k < K → w'.cell? ⟨g', k, none⟩ = some (.int .u64 (wd U k : Nat)) := HC.out.2 k
      by_cases hkK : k < K
      · go_wp2_with fail
        go_quiet (fail)
        go_wp2
        · rename_i hne
          have hVU : V ≠ U := fun e => by subst e; simp at hne
          go_ret
          exact ⟨by simp [hVU], m + nq, by simp⟩
        · rename_i heq
          have heq : wd V k = wd U k := by have h2 : ((wd V k : Nat) : Int) = ((wd U k : Nat) : Int) := by simpa using heq
                                           omega
          refine ⟨⟨k + 1, by omega, by go_num, ⟨_, rfl⟩, Hid.mk fun j hj => ?_⟩, by simp [intOf]; omega⟩
          rcases (show j < k ∨ j = k by omega) with h | rfl
          · exact hw.out j h
          · exact heq
      · go_wp2
        have hVU : V = U := HH.out fun j hj => hw.out j (by omega)
        go_ret
        exact ⟨by simp [hVU], _, rfl⟩

theorem same_rows (b V n c U m : Nat) (w : World) (h : RowRd w b V n) (h' : RowRd w c U m) :
    Calls Tryd.prog 23 #[.pointer (some ⟨b, 0, none⟩), .pointer (some ⟨c, 0, none⟩)] w fun e w' => e = .returned (.bool (decide (n = m ∧ V = U))) ∧ ∃ k, w' = w.drewN k := by
  by_cases hs : n ≠ m ∨ n = 0
  · refine (same_short _ _ n m w (.row h) (.row h') hs h.len).mono ?_
    rintro e w' ⟨rfl, rfl⟩
    refine ⟨?_, 0, rfl⟩
    by_cases hn : n = m
    · obtain rfl : n = 0 := by omega
      subst hn
      have h1 := h.fit
      have h2 := h'.fit
      have h3 : V = U := by simp at h1 h2; omega
      simp [h3]
    · simp [hn]
  · obtain rfl : n = m := by omega
    refine (same_long b V n c U w h h' (by omega)).mono ?_
    rintro e w' ⟨rfl, hk⟩
    exact ⟨by simp, hk⟩

end Go.Proofs.YtbbnjledicddhaaDoor
