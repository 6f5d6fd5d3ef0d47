/-
  The same, where what is known of the world hangs on which operations are done (one of them lays a block, say, and another one may come up ahead of it or behind it).
-/
import Derived.Test.YtiiflegfbieblaaAnyD
namespace Go.Proofs.Ytiiflegfbieblaa
open Go.RowKit

theorem any_detS {F : Fence} {n : Nat} {P : Program} {ops : Array Oper} {Q : Exit → Act → World → Prop} {m d r : Nat} {vs : List Value} {a A : Act} {S : (Nat → Bool) → World → Prop} (hD : DetN ops m d r) (hA : fillTo d vs (fun _ => true) a m = A)
    (hsz : d + m ≤ a.tmps.size)
    (hstep : ∀ i, i < m → ∀ dn w, dn i = false → S dn w → wpOpIn F n P ops (fun _ _ _ => False) i (fun a' w' => a'.eval (.tmp (d + i)) = vs.getD i undef ∧ a'.defers.length = A.defers.length ∧ S (upd dn i) w') A w)
    (hend : ∀ dn w, (∀ j, j < m → dn j = true) → S dn w → tailIn F n P ops Q r m A w) :
    ∀ (k : Nat) (ls : Array Bool) (w : World), leftB (fun j => ls.getD j false) m = k → ls.size = m + r → (∀ j, m ≤ j → j < m + r → ls.getD j true = false) →
      (∀ i o, ops[i]? = some o → ls.getD i false = true → ∀ e ∈ o.after, Region.binds .any e = true → ls.getD e.on false = true) → S (fun j => ls.getD j false) w →
      wpAnyIn F n P .any ops Q (k + r) ls (fillTo d vs (fun j => ls.getD j false) a m) w := by
  have hds : ∀ {ls : Array Bool}, ls.size = m + r → ∀ j, j < m + r → ls.getD j true = ls.getD j false := fun hs j hj => by
    rw [Array.getD_eq_getD_getElem?, Array.getD_eq_getD_getElem?, Array.getElem?_eq_getElem (by omega)]; rfl
  have hin : ∀ {ls : Array Bool} {i : Nat}, ls.size = m + r → i ∈ Region.ready .any ops ls → i < m + r := fun hs hi => by
    obtain ⟨_, o, ho, _⟩ := mem_ready.1 hi
    have := (Array.getElem?_eq_some_iff.1 ho).1
    rw [hD.size] at this; exact this
  intro k
  induction k with
  | zero =>
    intro ls w hk hs hm hcl hS
    have hall := leftB_none _ m hk
    have hfull : fillTo d vs (fun j => ls.getD j false) a m = A := by rw [← hA]; exact fillTo_congr d vs a m fun j hj => hall j hj
    rw [hfull, Nat.zero_add]
    exact tail_run hD r m ls A w rfl (Nat.le_refl _) hs hall hm (hend _ w hall hS)
  | succ k ih =>
    intro ls w hk hs hm hcl hS
    rw [Nat.succ_add]
    obtain ⟨j0, hj0, hb0⟩ := leftB_some (fun j => ls.getD j false) m (by rw [hk]; exact Nat.succ_ne_zero k)
    refine ⟨fun h => ?_, fun i hi => ?_⟩
    · obtain ⟨i, hi, hu, hlow⟩ := least_of (p := fun j => ls.getD j false = false) j0 hb0
      obtain ⟨o, ho⟩ : ∃ o, ops[i]? = some o := ⟨_, Array.getElem?_eq_getElem (by rw [hD.size]; omega)⟩
      have : i ∈ Region.ready .any ops ls := mem_ready.2 ⟨by rw [hds hs i (by omega)]; exact hu, o, ho, fun e he hb => by
        have h1 := hD.back i o ho e he hb
        have := hlow _ h1
        simpa using this⟩
      rw [h] at this; cases this
    · have hi2 := hin hs hi
      obtain ⟨hu, o, ho, hwait⟩ := mem_ready.1 hi
      have him : i < m := by
        refine Nat.lt_of_not_le fun hge => ?_
        -- the last one of the first m that has not come up is waited for by one that has, or by i
        obtain ⟨t, ht, hut, hlow⟩ := least_of (p := fun t => t < m ∧ ls.getD (m - 1 - t) false = false) (m - 1 - j0) ⟨by omega, by rw [show m - 1 - (m - 1 - j0) = j0 by omega]; exact hb0⟩
        obtain ⟨hut1, hut2⟩ := hut
        obtain ⟨j, oj, hij, hjm, hoj, e, he, hb, hon⟩ := hD.needed (m - 1 - t) (by omega)
        by_cases hjj : j = m
        · subst hjj
          obtain rfl : i = j := by
            rcases (show i = j ∨ j < i by omega) with h | h
            · exact h
            · obtain ⟨o2, ho2, e2, he2, hb2, hon2⟩ := hD.chain (i - 1) (by omega) (by omega)
              rw [show i - 1 + 1 = i by omega] at ho2
              rw [ho2] at ho; cases ho
              have h3 := hwait e2 he2 hb2
              have h4 := hm (i - 1) (by omega) (by omega)
              rw [hon2, ← hds hs (i - 1) (by omega), h4] at h3; cases h3
          rw [ho] at hoj; cases hoj
          have := hwait e he hb
          rw [hon, hut2] at this; cases this
        · have hlj : ls.getD j false = true := by
            have := hlow (m - 1 - j) (by omega)
            rw [show m - 1 - (m - 1 - j) = j by omega] at this
            cases hx : ls.getD j false with
            | true => rfl
            | false => exact absurd ⟨by omega, hx⟩ this
          have := hcl j oj hoj hlj e he hb
          rw [hon, hut2] at this; cases this
      have hbi : ls.getD i false = false := by rw [← hds hs i hi2]; exact hu
      obtain ⟨hdst, hgd, hnd, hns⟩ := hD.plain i o ho him
      have hw : ∀ a : Act, Region.wanted o (yielded ops a.tmps) = true := fun a => by simp [Region.wanted, hgd]
      have h1 := hstep i him _ w hbi hS
      unfold wpOpIn at h1 ⊢
      simp only [ho, hw, if_true] at h1 ⊢
      have h3 := tells_same (A' := fillTo d vs (fun j => ls.getD j false) a m) (Q := Q) hdst (by rw [← hA, fillTo_size]; exact Nat.lt_of_lt_of_le (Nat.add_lt_add_left him d) hsz) hnd hns (fun x hx => by
        rw [← hA]
        refine fillTo_eval d vs _ a x m fun j hj hxd => ?_
        obtain ⟨e, he, hb, hon⟩ := hD.reads i o ho him x hx j hj hxd
        have := hwait e he hb
        rw [hon] at this; exact this) h1
      refine Oper.wpIn_mono (fun a' w' h => ?_) h3
      obtain ⟨rfl, hS'⟩ := h
      have hbu : (fun j => (ls.setIfInBounds i true).getD j false) = upd (fun j => ls.getD j false) i := by
        funext j
        unfold upd
        by_cases hj : j = i
        · subst hj; rw [if_pos rfl]; simp [hs, hi2]
        · rw [if_neg hj, getD_set_ne false (Ne.symm hj)]
      have hfin := ih (ls.setIfInBounds i true) w' (by rw [hbu]; have := leftB_upd (fun j => ls.getD j false) i m him hbi; omega) (by simp [hs]) (fun j h1 h2 => by rw [getD_set_ne true (by omega)]; exact hm j h1 h2)
        (fun l ol hol hl e he hb => by
          by_cases hli : l = i
          · subst hli
            rw [ho] at hol; cases hol
            exact getD_set_true (hwait e he hb)
          · rw [getD_set_ne false (Ne.symm hli)] at hl
            exact getD_set_true (hcl l ol hol hl e he hb)) (by rw [hbu]; exact hS')
      rw [hbu, fillTo_upd d vs _ a i hbi m him, ← hdst] at hfin
      exact hfin

/-- The whole region. -/
theorem region_detS {F : Fence} {n : Nat} {P : Program} {id : Nat} {ops : Array Oper} {Q : Exit → Act → World → Prop} (m d r : Nat) (vs : List Value) {a : Act} (A : Act) (S : (Nat → Bool) → World → Prop) {w : World} (hm : P.follows .mixedOrders = true) (hD : DetN ops m d r) (hA : fillTo d vs (fun _ => true) a m = A)
    (hsz : d + m ≤ a.tmps.size) (hS : ∀ dn, (∀ j, dn j = false) → S dn { w with drawn := w.drawn + 1 })
    (hstep : ∀ i, i < m → ∀ dn w, dn i = false → S dn w → wpOpIn F n P ops (fun _ _ _ => False) i (fun a' w' => a'.eval (.tmp (d + i)) = vs.getD i undef ∧ a'.defers.length = A.defers.length ∧ S (upd dn i) w') A w)
    (hend : ∀ dn w, (∀ j, j < m → dn j = true) → S dn w → tailIn F n P ops Q r m A w) : (Code.region id ops true).wpIn F n P Q a w := by
  refine wpIn_region_any hm ?_
  rw [hD.size]
  have hb : ∀ j, (Array.replicate (m + r) false).getD j false = false := fun j => by
    rw [Array.getD_eq_getD_getElem?]
    by_cases h : j < m + r
    · simp [h]
    · simp [Nat.not_lt.1 h]
  have hl : ∀ k, leftB (fun j => (Array.replicate (m + r) false).getD j false) k = k := fun k => by
    induction k with
    | zero => rfl
    | succ k ih => rw [leftB, ih, hb]; rfl
  have h := any_detS (n := n) hD hA hsz hstep hend m (Array.replicate (m + r) false) { w with drawn := w.drawn + 1 } (hl m) (by simp) (fun j h1 h2 => by rw [Array.getD_eq_getD_getElem?]; simp [h2]) (fun i o _ h => by rw [hb] at h; cases h) (hS _ hb)
  have hf : ∀ k, fillTo d vs (fun j => (Array.replicate (m + r) false).getD j false) a k = a := fun k => by
    induction k with
    | zero => rfl
    | succ k ih => rw [fillTo, hb, cond_false, ih]
  rw [hf] at h
  exact h


end Go.Proofs.Ytiiflegfbieblaa
