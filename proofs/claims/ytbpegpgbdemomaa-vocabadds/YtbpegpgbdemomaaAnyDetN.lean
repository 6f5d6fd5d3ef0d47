/-
  The same for a region with a tail: all operations but the last r tell one value each, whatever the order is; then the last r come up, one behind the other.
-/
import Derived.Test.YtbpegpgbdemomaaAnyDet
namespace Go.Proofs.Ytbpegpgbdemomaa
open Go.RowKit

structure DetN (ops : Array Oper) (m d r : Nat) : Prop where
  size : ops.size = m + r
  one : 0 < r
  chain : ∀ j, m ≤ j → j + 1 < m + r → ∃ o, ops[j + 1]? = some o ∧ ∃ e ∈ o.after, Region.binds .any e = true ∧ e.on = j
  back : ∀ i o, ops[i]? = some o → ∀ e ∈ o.after, Region.binds .any e = true → e.on < i
  plain : ∀ i o, ops[i]? = some o → i < m → o.dst = some (d + i) ∧ o.guard = none ∧ (∀ c, o.op ≠ .defer c) ∧ ∀ cs b, o.op ≠ .select cs b
  reads : ∀ i o, ops[i]? = some o → i < m → ∀ x ∈ o.op.operands, ∀ j, j < m → x = .tmp (d + j) → ∃ e ∈ o.after, Region.binds .any e = true ∧ e.on = j
  needed : ∀ i, i < m → ∃ j o, i < j ∧ j ≤ m ∧ ops[j]? = some o ∧ ∃ e ∈ o.after, Region.binds .any e = true ∧ e.on = i

/-- The operations from i on, r of them, one behind the other. -/
def tailIn (F : Fence) (n : Nat) (P : Program) (ops : Array Oper) (Q : Exit → Act → World → Prop) : Nat → Nat → Act → World → Prop
  | 0, _, a, w => Q .normal a w
  | r + 1, i, a, w => wpOpIn F n P ops Q i (fun a' w' => tailIn F n P ops Q r (i + 1) a' w') a w

theorem tail_run {F : Fence} {n : Nat} {P : Program} {ops : Array Oper} {Q : Exit → Act → World → Prop} {m d r : Nat} (hD : DetN ops m d r) :
    ∀ (k i : Nat) (ls : Array Bool) (a : Act) (w : World), i + k = m + r → m ≤ i → ls.size = m + r → (∀ j, j < i → ls.getD j false = true) → (∀ j, i ≤ j → j < m + r → ls.getD j true = false) → tailIn F n P ops Q k i a w → wpAnyIn F n P .any ops Q k ls a w := by
  intro k
  induction k with
  | zero =>
    intro i ls a w hi _ hs hdone _ h
    refine ⟨?_, h⟩
    rw [List.eq_nil_iff_forall_not_mem]
    intro l hl
    obtain ⟨hu, ol, hol, _⟩ := mem_ready.1 hl
    have h2 := (Array.getElem?_eq_some_iff.1 hol).1
    rw [hD.size] at h2
    have := hdone l (by omega)
    rw [Array.getD_eq_getD_getElem?, Array.getElem?_eq_getElem (by omega)] at this hu
    rw [Option.getD_some] at this hu
    rw [this] at hu; cases hu
  | succ k ih =>
    intro i ls a w hi him hs hdone hleft h
    obtain ⟨o, ho⟩ : ∃ o, ops[i]? = some o := ⟨_, Array.getElem?_eq_getElem (by rw [hD.size]; omega)⟩
    have hr : i ∈ Region.ready .any ops ls := mem_ready.2 ⟨hleft i (Nat.le_refl _) (by omega), o, ho, fun e he hb => hdone _ (hD.back i o ho e he hb)⟩
    refine ⟨(fun h => by rw [h] at hr; cases hr), fun j hj => ?_⟩
    obtain rfl : j = i := by
      obtain ⟨hu, oj, hoj, hw⟩ := mem_ready.1 hj
      have h2 := (Array.getElem?_eq_some_iff.1 hoj).1
      rw [hD.size] at h2
      rcases (show j < i ∨ j = i ∨ i < j by omega) with h | h | h
      · have := hdone j h
        rw [Array.getD_eq_getD_getElem?, Array.getElem?_eq_getElem (by omega)] at this hu
        rw [Option.getD_some] at this hu
        rw [this] at hu; cases hu
      · exact h
      · obtain ⟨o2, ho2, e, he, hb, hon⟩ := hD.chain (j - 1) (by omega) (by omega)
        rw [show j - 1 + 1 = j by omega] at ho2
        rw [ho2] at hoj; cases hoj
        have h3 := hw e he hb
        have h4 := hleft (j - 1) (by omega) (by omega)
        rw [hon] at h3
        rw [Array.getD_eq_getD_getElem?, Array.getElem?_eq_getElem (by omega)] at h3 h4
        rw [Option.getD_some] at h3 h4
        rw [h3] at h4; cases h4
    refine wpOpIn_mono (fun a' w' h' => ?_) h
    refine ih (j + 1) _ a' w' (by omega) (by omega) (by simp [hs]) (fun q hq => ?_) (fun q h1 h2 => by rw [getD_set_ne true (by omega)]; exact hleft q (by omega) h2) h'
    rcases (show q < j ∨ q = j by omega) with h | h
    · exact getD_set_true (hdone q h)
    · subst h; simp [hs]; omega

theorem any_detN {F : Fence} {n : Nat} {P : Program} {ops : Array Oper} {Q : Exit → Act → World → Prop} {m d r : Nat} {vs : List Value} {a A : Act} {S : World → Prop} (hD : DetN ops m d r) (hA : fillTo d vs (fun _ => true) a m = A)
    (hsz : d + m ≤ a.tmps.size)
    (hstep : ∀ i, i < m → ∀ w, S w → wpOpIn F n P ops (fun _ _ _ => False) i (fun a' w' => a'.eval (.tmp (d + i)) = vs.getD i undef ∧ a'.defers.length = A.defers.length ∧ S w') A w)
    (hend : ∀ w, S w → tailIn F n P ops Q r m A w) :
    ∀ (k : Nat) (ls : Array Bool) (w : World), leftB (fun j => ls.getD j false) m = k → ls.size = m + r → (∀ j, m ≤ j → j < m + r → ls.getD j true = false) →
      (∀ i o, ops[i]? = some o → ls.getD i false = true → ∀ e ∈ o.after, Region.binds .any e = true → ls.getD e.on false = true) → S w →
      wpAnyIn F n P .any ops Q (k + r) ls (fillTo d vs (fun j => ls.getD j false) a m) w := by
  have hds : ∀ {ls : Array Bool}, ls.size = m + r → ∀ j, j < m + r → ls.getD j true = ls.getD j false := fun hs j hj => by
    rw [Array.getD_eq_getD_getElem?, Array.getD_eq_getD_getElem?, Array.getElem?_eq_getElem (by omega)]; rfl
  have hin : ∀ {ls : Array Bool} {i : Nat}, ls.size = m + r → i ∈ Region.ready .any ops ls → i < m + r := fun hs hi => by
    obtain ⟨_, o, ho, _⟩ := mem_ready.1 hi
    have := (Array.getElem?_eq_some_iff.1 ho).1
    rw [hD.size] at this; exact this
  intro k
  induction k with
  | zero =>
    intro ls w hk hs hm hcl hS
    have hall := leftB_none _ m hk
    have hfull : fillTo d vs (fun j => ls.getD j false) a m = A := by rw [← hA]; exact fillTo_congr d vs a m fun j hj => hall j hj
    rw [hfull, Nat.zero_add]
    exact tail_run hD r m ls A w rfl (Nat.le_refl _) hs hall hm (hend w hS)
  | succ k ih =>
    intro ls w hk hs hm hcl hS
    rw [Nat.succ_add]
    obtain ⟨j0, hj0, hb0⟩ := leftB_some (fun j => ls.getD j false) m (by rw [hk]; exact Nat.succ_ne_zero k)
    refine ⟨fun h => ?_, fun i hi => ?_⟩
    · obtain ⟨i, hi, hu, hlow⟩ := least_of (p := fun j => ls.getD j false = false) j0 hb0
      obtain ⟨o, ho⟩ : ∃ o, ops[i]? = some o := ⟨_, Array.getElem?_eq_getElem (by rw [hD.size]; omega)⟩
      have : i ∈ Region.ready .any ops ls := mem_ready.2 ⟨by rw [hds hs i (by omega)]; exact hu, o, ho, fun e he hb => by
        have h1 := hD.back i o ho e he hb
        have := hlow _ h1
        simpa using this⟩
      rw [h] at this; cases this
    · have hi2 := hin hs hi
      obtain ⟨hu, o, ho, hwait⟩ := mem_ready.1 hi
      have him : i < m := by
        refine Nat.lt_of_not_le fun hge => ?_
        -- the last one of the first m that has not come up is waited for by one that has, or by i
        obtain ⟨t, ht, hut, hlow⟩ := least_of (p := fun t => t < m ∧ ls.getD (m - 1 - t) false = false) (m - 1 - j0) ⟨by omega, by rw [show m - 1 - (m - 1 - j0) = j0 by omega]; exact hb0⟩
        obtain ⟨hut1, hut2⟩ := hut
        obtain ⟨j, oj, hij, hjm, hoj, e, he, hb, hon⟩ := hD.needed (m - 1 - t) (by omega)
        by_cases hjj : j = m
        · subst hjj
          obtain rfl : i = j := by
            rcases (show i = j ∨ j < i by omega) with h | h
            · exact h
            · obtain ⟨o2, ho2, e2, he2, hb2, hon2⟩ := hD.chain (i - 1) (by omega) (by omega)
              rw [show i - 1 + 1 = i by omega] at ho2
              rw [ho2] at ho; cases ho
              have h3 := hwait e2 he2 hb2
              have h4 := hm (i - 1) (by omega) (by omega)
              rw [hon2, ← hds hs (i - 1) (by omega), h4] at h3; cases h3
          rw [ho] at hoj; cases hoj
          have := hwait e he hb
          rw [hon, hut2] at this; cases this
        · have hlj : ls.getD j false = true := by
            have := hlow (m - 1 - j) (by omega)
            rw [show m - 1 - (m - 1 - j) = j by omega] at this
            cases hx : ls.getD j false with
            | true => rfl
            | false => exact absurd ⟨by omega, hx⟩ this
          have := hcl j oj hoj hlj e he hb
          rw [hon, hut2] at this; cases this
      have hbi : ls.getD i false = false := by rw [← hds hs i hi2]; exact hu
      obtain ⟨hdst, hgd, hnd, hns⟩ := hD.plain i o ho him
      have hw : ∀ a : Act, Region.wanted o (yielded ops a.tmps) = true := fun a => by simp [Region.wanted, hgd]
      have h1 := hstep i him w hS
      unfold wpOpIn at h1 ⊢
      simp only [ho, hw, if_true] at h1 ⊢
      have h3 := tells_same (A' := fillTo d vs (fun j => ls.getD j false) a m) (Q := Q) hdst (by rw [← hA, fillTo_size]; exact Nat.lt_of_lt_of_le (Nat.add_lt_add_left him d) hsz) hnd hns (fun x hx => by
        rw [← hA]
        refine fillTo_eval d vs _ a x m fun j hj hxd => ?_
        obtain ⟨e, he, hb, hon⟩ := hD.reads i o ho him x hx j hj hxd
        have := hwait e he hb
        rw [hon] at this; exact this) h1
      refine Oper.wpIn_mono (fun a' w' h => ?_) h3
      obtain ⟨rfl, hS'⟩ := h
      have hbu : (fun j => (ls.setIfInBounds i true).getD j false) = upd (fun j => ls.getD j false) i := by
        funext j
        unfold upd
        by_cases hj : j = i
        · subst hj; rw [if_pos rfl]; simp [hs, hi2]
        · rw [if_neg hj, getD_set_ne false (Ne.symm hj)]
      have hfin := ih (ls.setIfInBounds i true) w' (by rw [hbu]; have := leftB_upd (fun j => ls.getD j false) i m him hbi; omega) (by simp [hs]) (fun j h1 h2 => by rw [getD_set_ne true (by omega)]; exact hm j h1 h2)
        (fun l ol hol hl e he hb => by
          by_cases hli : l = i
          · subst hli
            rw [ho] at hol; cases hol
            exact getD_set_true (hwait e he hb)
          · rw [getD_set_ne false (Ne.symm hli)] at hl
            exact getD_set_true (hcl l ol hol hl e he hb)) hS'
      rw [hbu, fillTo_upd d vs _ a i hbi m him, ← hdst] at hfin
      exact hfin

/-- The whole region. -/
theorem region_detN {F : Fence} {n : Nat} {P : Program} {id : Nat} {ops : Array Oper} {Q : Exit → Act → World → Prop} (m d r : Nat) (vs : List Value) {a : Act} (A : Act) (S : World → Prop) {w : World} (hm : P.follows .mixedOrders = true) (hD : DetN ops m d r) (hA : fillTo d vs (fun _ => true) a m = A)
    (hsz : d + m ≤ a.tmps.size) (hS : S { w with drawn := w.drawn + 1 })
    (hstep : ∀ i, i < m → ∀ w, S w → wpOpIn F n P ops (fun _ _ _ => False) i (fun a' w' => a'.eval (.tmp (d + i)) = vs.getD i undef ∧ a'.defers.length = A.defers.length ∧ S w') A w)
    (hend : ∀ w, S w → tailIn F n P ops Q r m A w) : (Code.region id ops true).wpIn F n P Q a w := by
  refine wpIn_region_any hm ?_
  rw [hD.size]
  have hb : ∀ j, (Array.replicate (m + r) false).getD j false = false := fun j => by
    rw [Array.getD_eq_getD_getElem?]
    by_cases h : j < m + r
    · simp [h]
    · simp [Nat.not_lt.1 h]
  have hl : ∀ k, leftB (fun j => (Array.replicate (m + r) false).getD j false) k = k := fun k => by
    induction k with
    | zero => rfl
    | succ k ih => rw [leftB, ih, hb]; rfl
  have h := any_detN (n := n) hD hA hsz hstep hend m (Array.replicate (m + r) false) { w with drawn := w.drawn + 1 } (hl m) (by simp) (fun j h1 h2 => by rw [Array.getD_eq_getD_getElem?]; simp [h2]) (fun i o _ h => by rw [hb] at h; cases h) hS
  have hf : ∀ k, fillTo d vs (fun j => (Array.replicate (m + r) false).getD j false) a k = a := fun k => by
    induction k with
    | zero => rfl
    | succ k ih => rw [fillTo, hb, cond_false, ih]
  rw [hf] at h
  exact h

def detBN (ops : Array Oper) (m d r : Nat) : Bool :=
  decide (0 < r) && (((List.range r).all fun i => decide (r ≤ i + 1) || match ops[m + i + 1]? with | none => false | some o => waitsB o (m + i)) &&
  decide (ops.size = m + r) && (((List.range (m + r)).all fun i => match ops[i]? with | none => false | some o => o.after.toList.all (fun e => !(Region.binds .any e) || decide (e.on < i))) &&
  (((List.range m).all fun i => match ops[i]? with | none => false | some o => fineB o (d + i) && o.op.operands.toList.all (readsB m d o)) &&
  ((List.range m).all fun i => (List.range (m + 1)).any fun j => decide (i < j) && match ops[j]? with | none => false | some o => waitsB o i))))
theorem detN_of {ops : Array Oper} {m d r : Nat} (h : detBN ops m d r = true) : DetN ops m d r := by
  unfold detBN at h
  simp only [Bool.and_eq_true, List.all_eq_true, List.mem_range, decide_eq_true_eq] at h
  obtain ⟨h1, ⟨hch, hs⟩, hb, hp, hn⟩ := h
  have hp' : ∀ i o, ops[i]? = some o → i < m → fineB o (d + i) = true ∧ ∀ x ∈ o.op.operands, readsB m d o x = true := fun i o ho hi => by
    have := hp i hi
    rw [ho] at this
    simp only [Bool.and_eq_true, List.all_eq_true] at this
    exact ⟨this.1, fun x hx => this.2 x (by simpa using hx)⟩
  have hget : ∀ i, i < m + r → ∃ o, ops[i]? = some o := fun i hi => ⟨_, Array.getElem?_eq_getElem (by rw [hs]; exact hi)⟩
  refine ⟨hs, h1, fun j hj1 hj2 => ?_, fun i o ho e he hbe => ?_, fun i o ho hi => fine_of (hp' i o ho hi).1, fun i o ho hi x hx j hj hxd => ?_, fun i hi => ?_⟩
  · have := hch (j - m) (by omega)
    simp only [Bool.or_eq_true, decide_eq_true_eq] at this
    rcases this with h | h
    · omega
    · obtain ⟨o, ho⟩ := hget (j + 1) hj2
      rw [show m + (j - m) + 1 = j + 1 by omega, ho] at h
      have h := waits_of h
      rw [show m + (j - m) = j by omega] at h
      exact ⟨o, ho, h⟩
  · have := hb i (by have := (Array.getElem?_eq_some_iff.1 ho).1; omega)
    rw [ho] at this
    simp only [List.all_eq_true, Bool.or_eq_true, Bool.not_eq_true', decide_eq_true_eq] at this
    rcases this e (by simpa using he) with h | h
    · rw [hbe] at h; cases h
    · exact h
  · have := (hp' i o ho hi).2 x hx
    unfold readsB at this
    simp only [List.all_eq_true, List.mem_range, Bool.or_eq_true] at this
    rcases this j hj with h | h
    · rw [hxd] at h; simp at h
    · exact waits_of h
  · have := hn i hi
    simp only [List.any_eq_true, List.mem_range, Bool.and_eq_true, decide_eq_true_eq] at this
    obtain ⟨j, hj, hij, h⟩ := this
    obtain ⟨o, ho⟩ := hget j (by omega)
    rw [ho] at h
    exact ⟨j, o, hij, by omega, ho, waits_of h⟩

end Go.Proofs.Ytbpegpgbdemomaa
