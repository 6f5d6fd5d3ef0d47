/-
  rankdir's Zeros and Marks, and the document's own answers for it: Rank, Marks, Ints.
-/
import Derived.Test.YtgcaenpflndibaaDoorDirTell
namespace Go.Proofs.YtgcaenpflndibaaDoor
open Go.RowKit

theorem ints_one (f : Nat → Nat) (K : Nat) : ∀ u ∈ ints f K, u.oneCell' = true := by
  intro y hy; simp [ints] at hy; obtain ⟨_, _, rfl⟩ := hy; rfl

set_option maxRecDepth 1000000 in
theorem clone_ints (v : Value) (K : Nat) (f : Nat → Nat) (w : World) (h : IRd w v K f) (hK : K ≤ 1099511627776) (h0 : 0 < K) :
    Calls Tryd.prog 55 #[v] w fun e w' => ∃ v', e = .returned v' ∧ w'.ownsRow w.heap.size 3 1 v' K (ints f K) ∧ More w w' := by
  obtain ⟨i0, hi, hz0, hz1, hz2⟩ := info_parts Tryd.infoInt
  have he : (w.alloc (.cells #[] 3)).ownsRow w.heap.size 3 1 (.slice (some ⟨w.heap.size, 0, none⟩) 0 0) 0 [] := World.ownsRow_lit w #[] 0 (Nat.le_refl _) (by decide) rfl
  have hke : Below w.heap.size w (w.alloc (.cells #[] 3)) := (Below.refl w.heap.size w).alloc (Nat.le_refl _) (.cells #[] 3)
  rcases h with ⟨rfl, _⟩ | ⟨g, cap, rfl, hg, hc⟩
  · omega
  · have hn : ∀ w : World, (binOp .eql 22 (.slice (some ⟨g, 0, none⟩) K cap) (.slice none 0 0)).run Tryd.prog w = .ok (.bool false) w := fun _ => rfl
    have HE : Hid _ := And.intro he hke
    have hcc : ∀ (j : Nat) u, (ints f K)[j]? = some u → (w.alloc (.cells #[] 3)).cell? ((⟨g, 0, none⟩ : Addr).add j) = some u := by
      intro j u hu
      have hj : j < K := by have := (List.getElem?_eq_some_iff.1 hu).1; simpa [ints_len] using this
      rw [ints_get _ _ _ hj] at hu
      rw [Addr.add_lit, World.cell?_alloc_past _ _ _ hg, Nat.zero_add, hc j hj]
      exact hu
    have HC : Hid _ := hcc
    clear he hke hc hcc
    go_enter Tryd.func55, Tryd.ntmps55
    go_wp2_with (at_builtin; refine wpList_append_own _ rfl (.tmp 5) (.tmp 6) 22 rfl w.heap.size 3 i0 (.int .i64 0) 1 8 Tryd.underlying22 hi hz0 hz1 hz2 rfl (by decide) _ _ _ rfl HE.out.1 ⟨g, 0, none⟩ K cap (ints f K) rfl (by rw [ints_len, Nat.mul_one]) HC.out ?c2 ?c3 ?c4 ?c5 ?_)
    case c2 => exact ints_one f K
    case c3 => unfold maxLen; omega
    case c4 => omega
    case c5 => simp
    · intro v' w1 hown hgrow _
      have hk : More w w1 := HE.out.2.grown hgrow (by simp) (fun k hk => (HE.out.1.lt k hk).1)
      have HO : Hid _ := And.intro hown hk
      clear hown hgrow hk HE
      go_wp2
      go_ret
      exact ⟨_, rfl, HO.out.1, HO.out.2⟩

theorem dir_marks (d V n : Nat) (w : World) (c1 : ∃ m, w.cell? ⟨d, 1, none⟩ = some m ∧ IRd w m (nm n + 1) (mk V n)) (hlen : n ≤ 1099511627776) :
    Calls Tryd.prog 36 #[.pointer (some ⟨d, 0, none⟩)] w fun e w' => ∃ v', e = .returned v' ∧ w'.ownsRow w.heap.size 3 1 v' (nm n + 1) (ints (mk V n) (nm n + 1)) ∧ More w w' := by
  obtain ⟨m, c1, hm⟩ := c1
  have hcl := clone_ints m (nm n + 1) (mk V n) w hm (by unfold nm nw; omega) (by omega)
  obtain ⟨ao, cap, rfl⟩ := hm.shape
  clear hm
  go_enter Tryd.func36, Tryd.ntmps36
  go_wp2_with (go_at_call 55; refine hcl.mono ?_; rintro e w' ⟨v', rfl, hown, hk⟩; have HO : Hid _ := And.intro hown hk; clear hown hk)
  go_ret
  exact ⟨_, rfl, HO.out.1, HO.out.2⟩
theorem none_marks (w : World) : Calls Tryd.prog 36 #[.pointer none] w fun e w' => e = .returned (.slice none 0 0) ∧ w' = w := by
  go_enter Tryd.func36, Tryd.ntmps36
  go_wp2
  go_ret
  exact ⟨rfl, rfl⟩

theorem IRd.drewN {w : World} {v : Value} {K : Nat} {f : Nat → Nat} (h : IRd w v K f) (m : Nat) : IRd (w.drewN m) v K f := h

end Go.Proofs.YtgcaenpflndibaaDoor
