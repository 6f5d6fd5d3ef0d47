/-
  The first one that is not below a number: halving, of numbers that do not fall.
-/
import Derived.Test.YtgcaenpflndibaaDoorPackNew
namespace Go.Proofs.YtgcaenpflndibaaDoor
open Go.RowKit

/-- r is the first place from lo to ahead of hi, below K, whose number is not below v; -1: there is none. -/
def IsFind (f : Nat → Nat) (K : Nat) (lo hi : Int) (v : Nat) (r : Int) : Prop :=
  (r = -1 ∧ ∀ i : Nat, i < K → lo ≤ i → i < hi → f i < v) ∨ ∃ i : Nat, r = i ∧ i < K ∧ lo ≤ i ∧ i < hi ∧ v ≤ f i ∧ ∀ j : Nat, j < i → lo ≤ j → f j < v

theorem IsFind.unique {f : Nat → Nat} {K : Nat} {lo hi : Int} {v : Nat} {r s : Int} (h : IsFind f K lo hi v r) (k : IsFind f K lo hi v s) : r = s := by
  rcases h with ⟨rfl, h⟩ | ⟨i, rfl, h1, h2, h3, h4, h5⟩ <;> rcases k with ⟨rfl, k⟩ | ⟨j, rfl, k1, k2, k3, k4, k5⟩
  · rfl
  · have := h j k1 k2 k3; omega
  · have := k i h1 h2 h3; omega
  · rcases (show i < j ∨ i = j ∨ j < i by omega) with x | x | x
    · have := k5 i x h2; omega
    · omega
    · have := h5 j x k2; omega

/-- No number of the places from lo to ahead of hi falls. -/
def Rising (f : Nat → Nat) (K : Nat) (lo hi : Int) : Prop := ∀ i : Nat, 1 ≤ i → i < K → lo < i → i < hi → f (i - 1) ≤ f i

theorem Rising.mono {f : Nat → Nat} {K : Nat} {lo hi : Int} (h : Rising f K lo hi) (a b : Nat) (ha : lo ≤ a) (hab : a ≤ b) (hb : b < hi) (hK : b < K) : f a ≤ f b := by
  induction b with
  | zero => obtain rfl : a = 0 := by omega
            exact Nat.le_refl _
  | succ b ih =>
    by_cases e : a = b + 1
    · subst e; exact Nat.le_refl _
    · exact Nat.le_trans (ih (by omega) (by omega) (by omega)) (by have := h (b + 1) (by omega) hK (by omega) (by omega); simpa using this)

set_option maxRecDepth 1000000 in
theorem first_not (p V d n L H v : Nat) (w : World) (h : PackRd w p V d n) (hL : L ≤ H) (hH : H ≤ n) (hR : ∀ a b : Nat, L ≤ a → a ≤ b → b < H → atV V d n a ≤ atV V d n b) :
    Calls Tryd.prog 64 #[.int .i64 L, .int .i64 H, .int .u64 v, .func (.func 44) #[.pointer (some ⟨p, 0, none⟩)] #[]] w fun e w' => ∃ r : Nat, e = .returned (.int .i64 r) ∧ L ≤ r ∧ r ≤ H ∧ (∀ j : Nat, L ≤ j → j < r → atV V d n j < v) ∧ (∀ j : Nat, r ≤ j → j < H → v ≤ atV V d n j) ∧ ∃ k, w' = w.drewN k := by
  have hn := h.num
  have HH : Hid _ := And.intro h hR
  clear h hR
  go_enter Tryd.func64, Tryd.ntmps64
  go_wp2
  go_loopw [0, 1] (fun a b wr => ∃ x y : Nat, a = .int .i64 x ∧ b = .int .i64 y ∧ L ≤ x ∧ x ≤ y ∧ y ≤ H ∧ (∃ m, wr = w.drewN m) ∧ Hid ((∀ j : Nat, L ≤ j → j < x → atV V d n j < v) ∧ (∀ j : Nat, y ≤ j → j < H → v ≤ atV V d n j))) (fun a b _ => (intOf b).toNat - (intOf a).toNat)
  case atStart => exact ⟨L, H, rfl, rfl, Nat.le_refl _, hL, Nat.le_refl _, ⟨0, rfl⟩, Hid.mk ⟨fun j h1 h2 => by omega, fun j h1 h2 => by omega⟩⟩
  case round =>
    obtain ⟨x, y, rfl, rfl, hx, hxy, hy, ⟨m, rfl⟩, hw⟩ := hrel
    by_cases hlt : x < y
    · obtain ⟨q, hq⟩ : ∃ q, (y - x) / 2 = q := ⟨_, rfl⟩
      have hd : ((y : Int) - (x : Int)) / 2 = (q : Int) := by omega
      have hd2 : ((y : Int) - (x : Int)).tdiv 2 = (q : Int) := by rw [Int.tdiv_eq_ediv_of_nonneg (by omega)]; exact hd
      have hat := pack_at p V d n ((x + q : Nat) : Int) (w.drewN m) (HH.out.1.drewN m)
      obtain ⟨A, hA⟩ : ∃ A, atV V d n ((x + q : Nat) : Int) = A := ⟨_, rfl⟩
      rw [hA, Int.natCast_add] at hat
      have HA : Hid _ := hA
      have hqx : x + q < y := by omega
      clear hA hq
      by_cases hlow : A < v
      all_goals
        go_wp2_with (go_at_call 44; refine hat.mono ?_; rintro e w1 ⟨rfl, m1, hw1⟩; subst w1)
      · refine ⟨⟨x + q + 1, y, by go_num, rfl, by omega, by omega, hy, ⟨m + m1, by simp⟩, Hid.mk ⟨fun j h1 h2 => ?_, hw.out.2⟩⟩, by simp [intOf]; omega⟩
        have := HH.out.2 j (x + q) h1 (by omega) (by omega)
        rw [HA.out] at this
        omega
      · refine ⟨⟨x, x + q, rfl, by go_num, by omega, by omega, by omega, ⟨m + m1, by simp⟩, Hid.mk ⟨hw.out.1, fun j h1 h2 => ?_⟩⟩, by simp [intOf]; omega⟩
        have := HH.out.2 (x + q) j (by omega) (by omega) (by omega)
        rw [HA.out] at this
        omega
    · obtain rfl : x = y := by omega
      go_wp2
      go_ret
      exact ⟨x, rfl, hx, hy, hw.out.1, hw.out.2, m, rfl⟩

/-- Nothing to look at. -/
theorem first_none (fv : Value) (L : Nat) (H : Int) (v : Nat) (w : World) (h : H ≤ L) :
    Calls Tryd.prog 64 #[.int .i64 L, .int .i64 H, .int .u64 v, fv] w fun e w' => e = .returned (.int .i64 L) ∧ w' = w := by
  go_enter Tryd.func64, Tryd.ntmps64
  go_wp2
  refine wp_loop_rounds 1 ?_; rw [rounds_succ]; go_wp2
  go_ret
  exact ⟨rfl, rfl⟩

theorem pack_find (p V d n v : Nat) (lo hi : Int) (w : World) (h : PackRd w p V d n) (hR : Rising (fun i => atV V d n i) n lo hi) :
    Calls Tryd.prog 49 #[.pointer (some ⟨p, 0, none⟩), .int .i64 lo, .int .i64 hi, .int .u64 v] w fun e w' => ∃ r, e = .returned (.int .i64 r) ∧ IsFind (fun i => atV V d n i) n lo hi v r ∧ ∃ k, w' = w.drewN k := by
  have hn := h.num
  have hl := pack_len p V d n w h
  have hmf : ∀ (fn : Fn) (first cap : Array Value) (w : World), (Instr.makeFunc fn first cap).run Tryd.prog w = .ok (.func fn first cap) w := fun _ _ _ _ => rfl
  obtain ⟨L, hLe⟩ : ∃ L : Nat, max lo 0 = (L : Int) := ⟨(max lo 0).toNat, by omega⟩
  by_cases hno : min hi (n : Int) ≤ L
  · have hf := first_none (.func (.func 44) #[.pointer (some ⟨p, 0, none⟩)] #[]) L (min hi (n : Int)) v w hno
    obtain ⟨H, hHe⟩ : ∃ H : Int, min hi (n : Int) = H := ⟨_, rfl⟩
    rw [hHe] at hf hno
    have HF : Hid _ := And.intro hHe (And.intro hLe hno)
    clear h hR
    go_enter Tryd.func49, Tryd.ntmps49
    go_wp2_with (first
      | (go_at_call 45; refine hl.mono ?_; rintro e w1 ⟨rfl, hw⟩; subst w1)
      | (go_at_call 64; refine hf.mono ?_; rintro e w1 ⟨rfl, hw⟩; subst w1))
    go_ret
    refine ⟨_, rfl, .inl ⟨rfl, fun i h1 h2 h3 => ?_⟩, 0, rfl⟩
    have := HF.out
    omega
  · obtain ⟨H, hHe⟩ : ∃ H : Nat, min hi (n : Int) = (H : Int) := ⟨(min hi (n : Int)).toNat, by omega⟩
    have hf := first_not p V d n L H v w h (by omega) (by omega) (fun a b h1 h2 h3 => Rising.mono (f := fun i => atV V d n i) hR a b (by omega) h2 (by omega) (by omega))
    have hLH : L < H := by omega
    have HF : Hid _ := And.intro hHe hLe
    clear h hR hno
    go_enter Tryd.func49, Tryd.ntmps49
    go_wp2_with (first
      | (go_at_call 45; refine hl.mono ?_; rintro e w1 ⟨rfl, hw⟩; subst w1)
      | (go_at_call 64; refine hf.mono ?_; rintro e w1 ⟨r, rfl, h1, h2, h3, h4, k, hw⟩; subst w1; have H1 := Hid.mk (And.intro h3 h4); clear h3 h4))
    all_goals go_ret
    · have := HF.out
      refine ⟨_, rfl, .inl ⟨rfl, fun i h1 h2 h3 => H1.out.1 i (by omega) (by omega)⟩, _, rfl⟩
    · have := HF.out
      refine ⟨_, rfl, .inr ⟨r, rfl, by omega, by omega, by omega, H1.out.2 r (Nat.le_refl _) (by omega), fun j h1 h2 => H1.out.1 j (by omega) h1⟩, _, rfl⟩

theorem pnone_find (v : Nat) (lo hi : Int) (w : World) :
    Calls Tryd.prog 49 #[.pointer none, .int .i64 lo, .int .i64 hi, .int .u64 v] w fun e w' => e = .returned (.int .i64 (-1)) ∧ w' = w := by
  have hmf : ∀ (fn : Fn) (first cap : Array Value) (w : World), (Instr.makeFunc fn first cap).run Tryd.prog w = .ok (.func fn first cap) w := fun _ _ _ _ => rfl
  obtain ⟨L, hLe⟩ : ∃ L : Nat, max lo 0 = (L : Int) := ⟨(max lo 0).toNat, by omega⟩
  have hno : min hi (0 : Int) ≤ L := by omega
  have hf := first_none (.func (.func 44) #[.pointer none] #[]) L (min hi (0 : Int)) v w hno
  obtain ⟨H, hHe⟩ : ∃ H : Int, min hi (0 : Int) = H := ⟨_, rfl⟩
  rw [hHe] at hf hno
  go_enter Tryd.func49, Tryd.ntmps49
  go_wp2_with (first
    | (go_at_call 45; refine (pnone_len _).mono ?_; rintro e w1 ⟨rfl, hw⟩; subst w1)
    | (go_at_call 64; refine hf.mono ?_; rintro e w1 ⟨rfl, hw⟩; subst w1))
  go_ret
  exact ⟨rfl, rfl⟩

end Go.Proofs.YtgcaenpflndibaaDoor
