/-
  The same for a region whose last r operations wait for the first m all, but may come up in more orders than one: what is left is given as it stands, with the first m done.
-/
import Derived.Test.YtbpegpgbdemomaaAnyDetN
namespace Go.Proofs.Ytbpegpgbdemomaa
open Go.RowKit

structure DetR (ops : Array Oper) (m d r : Nat) : Prop where
  size : ops.size = m + r
  one : 0 < r
  root : ∀ j o, ops[j]? = some o → m < j → ∃ e ∈ o.after, Region.binds .any e = true ∧ m ≤ e.on ∧ e.on < j
  back : ∀ i o, ops[i]? = some o → ∀ e ∈ o.after, Region.binds .any e = true → e.on < i
  plain : ∀ i o, ops[i]? = some o → i < m → o.dst = some (d + i) ∧ o.guard = none ∧ (∀ c, o.op ≠ .defer c) ∧ ∀ cs b, o.op ≠ .select cs b
  reads : ∀ i o, ops[i]? = some o → i < m → ∀ x ∈ o.op.operands, ∀ j, j < m → x = .tmp (d + j) → ∃ e ∈ o.after, Region.binds .any e = true ∧ e.on = j
  needed : ∀ i, i < m → ∃ j o, i < j ∧ j ≤ m ∧ ops[j]? = some o ∧ ∃ e ∈ o.after, Region.binds .any e = true ∧ e.on = i

/-- The first m are done. -/
def doneTo (m r : Nat) : Array Bool := (List.replicate m true ++ List.replicate r false).toArray
theorem doneTo_of {m r : Nat} {ls : Array Bool} (hs : ls.size = m + r) (h1 : ∀ j, j < m → ls.getD j false = true) (h2 : ∀ j, m ≤ j → j < m + r → ls.getD j true = false) : ls = doneTo m r := by
  apply Array.ext
  · simp [doneTo, hs]
  intro j hj hj2
  by_cases h : j < m
  · have := h1 j h
    rw [Array.getD_eq_getD_getElem?, Array.getElem?_eq_getElem hj, Option.getD_some] at this
    rw [this]
    simp [doneTo, h]
  · have := h2 j (by omega) (by omega)
    rw [Array.getD_eq_getD_getElem?, Array.getElem?_eq_getElem hj, Option.getD_some] at this
    rw [this]
    simp [doneTo, List.getElem_append, h]

/-- Which may come up is one, or one of two. -/
theorem any_one {F : Fence} {n : Nat} {P : Program} {ops : Array Oper} {Q : Exit → Act → World → Prop} {k : Nat} {ls : Array Bool} {a : Act} {w : World} (i : Nat) (h : Region.ready .any ops ls = [i])
    (h1 : wpOpIn F n P ops Q i (fun a' w' => wpAnyIn F n P .any ops Q k (ls.setIfInBounds i true) a' w') a w) : wpAnyIn F n P .any ops Q (k + 1) ls a w :=
  ⟨by rw [h]; simp, fun j hj => by
    rw [h] at hj
    obtain rfl : j = i := by simpa using hj
    exact h1⟩
theorem any_two {F : Fence} {n : Nat} {P : Program} {ops : Array Oper} {Q : Exit → Act → World → Prop} {k : Nat} {ls : Array Bool} {a : Act} {w : World} (i i2 : Nat) (h : Region.ready .any ops ls = [i, i2])
    (h1 : wpOpIn F n P ops Q i (fun a' w' => wpAnyIn F n P .any ops Q k (ls.setIfInBounds i true) a' w') a w)
    (h2 : wpOpIn F n P ops Q i2 (fun a' w' => wpAnyIn F n P .any ops Q k (ls.setIfInBounds i2 true) a' w') a w) : wpAnyIn F n P .any ops Q (k + 1) ls a w :=
  ⟨by rw [h]; simp, fun j hj => by
    rw [h] at hj
    rcases (show j = i ∨ j = i2 by simpa using hj) with rfl | rfl
    · exact h1
    · exact h2⟩
theorem any_end {F : Fence} {n : Nat} {P : Program} {ops : Array Oper} {Q : Exit → Act → World → Prop} {ls : Array Bool} {a : Act} {w : World} (h : Region.ready .any ops ls = []) (h1 : Q .normal a w) : wpAnyIn F n P .any ops Q 0 ls a w := ⟨h, h1⟩

theorem any_detR {F : Fence} {n : Nat} {P : Program} {ops : Array Oper} {Q : Exit → Act → World → Prop} {m d r : Nat} {vs : List Value} {a A : Act} {S : World → Prop} (hD : DetR ops m d r) (hA : fillTo d vs (fun _ => true) a m = A)
    (hsz : d + m ≤ a.tmps.size)
    (hstep : ∀ i, i < m → ∀ w, S w → wpOpIn F n P ops (fun _ _ _ => False) i (fun a' w' => a'.eval (.tmp (d + i)) = vs.getD i undef ∧ a'.defers.length = A.defers.length ∧ S w') A w)
    (hend : ∀ w, S w → wpAnyIn F n P .any ops Q r (doneTo m r) A w) :
    ∀ (k : Nat) (ls : Array Bool) (w : World), leftB (fun j => ls.getD j false) m = k → ls.size = m + r → (∀ j, m ≤ j → j < m + r → ls.getD j true = false) →
      (∀ i o, ops[i]? = some o → ls.getD i false = true → ∀ e ∈ o.after, Region.binds .any e = true → ls.getD e.on false = true) → S w →
      wpAnyIn F n P .any ops Q (k + r) ls (fillTo d vs (fun j => ls.getD j false) a m) w := by
  have hds : ∀ {ls : Array Bool}, ls.size = m + r → ∀ j, j < m + r → ls.getD j true = ls.getD j false := fun hs j hj => by
    rw [Array.getD_eq_getD_getElem?, Array.getD_eq_getD_getElem?, Array.getElem?_eq_getElem (by omega)]; rfl
  have hin : ∀ {ls : Array Bool} {i : Nat}, ls.size = m + r → i ∈ Region.ready .any ops ls → i < m + r := fun hs hi => by
    obtain ⟨_, o, ho, _⟩ := mem_ready.1 hi
    have := (Array.getElem?_eq_some_iff.1 ho).1
    rw [hD.size] at this; exact this
  intro k
  induction k with
  | zero =>
    intro ls w hk hs hm hcl hS
    have hall := leftB_none _ m hk
    have hfull : fillTo d vs (fun j => ls.getD j false) a m = A := by rw [← hA]; exact fillTo_congr d vs a m fun j hj => hall j hj
    rw [hfull, Nat.zero_add]
    rw [doneTo_of hs hall hm]
    exact hend w hS
  | succ k ih =>
    intro ls w hk hs hm hcl hS
    rw [Nat.succ_add]
    obtain ⟨j0, hj0, hb0⟩ := leftB_some (fun j => ls.getD j false) m (by rw [hk]; exact Nat.succ_ne_zero k)
    refine ⟨fun h => ?_, fun i hi => ?_⟩
    · obtain ⟨i, hi, hu, hlow⟩ := least_of (p := fun j => ls.getD j false = false) j0 hb0
      obtain ⟨o, ho⟩ : ∃ o, ops[i]? = some o := ⟨_, Array.getElem?_eq_getElem (by rw [hD.size]; omega)⟩
      have : i ∈ Region.ready .any ops ls := mem_ready.2 ⟨by rw [hds hs i (by omega)]; exact hu, o, ho, fun e he hb => by
        have h1 := hD.back i o ho e he hb
        have := hlow _ h1
        simpa using this⟩
      rw [h] at this; cases this
    · have hi2 := hin hs hi
      obtain ⟨hu, o, ho, hwait⟩ := mem_ready.1 hi
      have him : i < m := by
        refine Nat.lt_of_not_le fun hge => ?_
        -- the last one of the first m that has not come up is waited for by one that has, or by i
        obtain ⟨t, ht, hut, hlow⟩ := least_of (p := fun t => t < m ∧ ls.getD (m - 1 - t) false = false) (m - 1 - j0) ⟨by omega, by rw [show m - 1 - (m - 1 - j0) = j0 by omega]; exact hb0⟩
        obtain ⟨hut1, hut2⟩ := hut
        obtain ⟨j, oj, hij, hjm, hoj, e, he, hb, hon⟩ := hD.needed (m - 1 - t) (by omega)
        by_cases hjj : j = m
        · subst hjj
          obtain rfl : i = j := by
            rcases (show i = j ∨ j < i by omega) with h | h
            · exact h
            · obtain ⟨e2, he2, hb2, hon1, hon2⟩ := hD.root i o ho h
              have h3 := hwait e2 he2 hb2
              have h4 := hm e2.on hon1 (by omega)
              rw [← hds hs e2.on (by omega), h4] at h3; cases h3
          rw [ho] at hoj; cases hoj
          have := hwait e he hb
          rw [hon, hut2] at this; cases this
        · have hlj : ls.getD j false = true := by
            have := hlow (m - 1 - j) (by omega)
            rw [show m - 1 - (m - 1 - j) = j by omega] at this
            cases hx : ls.getD j false with
            | true => rfl
            | false => exact absurd ⟨by omega, hx⟩ this
          have := hcl j oj hoj hlj e he hb
          rw [hon, hut2] at this; cases this
      have hbi : ls.getD i false = false := by rw [← hds hs i hi2]; exact hu
      obtain ⟨hdst, hgd, hnd, hns⟩ := hD.plain i o ho him
      have hw : ∀ a : Act, Region.wanted o (yielded ops a.tmps) = true := fun a => by simp [Region.wanted, hgd]
      have h1 := hstep i him w hS
      unfold wpOpIn at h1 ⊢
      simp only [ho, hw, if_true] at h1 ⊢
      have h3 := tells_same (A' := fillTo d vs (fun j => ls.getD j false) a m) (Q := Q) hdst (by rw [← hA, fillTo_size]; exact Nat.lt_of_lt_of_le (Nat.add_lt_add_left him d) hsz) hnd hns (fun x hx => by
        rw [← hA]
        refine fillTo_eval d vs _ a x m fun j hj hxd => ?_
        obtain ⟨e, he, hb, hon⟩ := hD.reads i o ho him x hx j hj hxd
        have := hwait e he hb
        rw [hon] at this; exact this) h1
      refine Oper.wpIn_mono (fun a' w' h => ?_) h3
      obtain ⟨rfl, hS'⟩ := h
      have hbu : (fun j => (ls.setIfInBounds i true).getD j false) = upd (fun j => ls.getD j false) i := by
        funext j
        unfold upd
        by_cases hj : j = i
        · subst hj; rw [if_pos rfl]; simp [hs, hi2]
        · rw [if_neg hj, getD_set_ne false (Ne.symm hj)]
      have hfin := ih (ls.setIfInBounds i true) w' (by rw [hbu]; have := leftB_upd (fun j => ls.getD j false) i m him hbi; omega) (by simp [hs]) (fun j h1 h2 => by rw [getD_set_ne true (by omega)]; exact hm j h1 h2)
        (fun l ol hol hl e he hb => by
          by_cases hli : l = i
          · subst hli
            rw [ho] at hol; cases hol
            exact getD_set_true (hwait e he hb)
          · rw [getD_set_ne false (Ne.symm hli)] at hl
            exact getD_set_true (hcl l ol hol hl e he hb)) hS'
      rw [hbu, fillTo_upd d vs _ a i hbi m him, ← hdst] at hfin
      exact hfin

/-- The whole region. -/
theorem region_detR {F : Fence} {n : Nat} {P : Program} {id : Nat} {ops : Array Oper} {Q : Exit → Act → World → Prop} (m d r : Nat) (vs : List Value) {a : Act} (A : Act) (S : World → Prop) {w : World} (hm : P.follows .mixedOrders = true) (hD : DetR ops m d r) (hA : fillTo d vs (fun _ => true) a m = A)
    (hsz : d + m ≤ a.tmps.size) (hS : S { w with drawn := w.drawn + 1 })
    (hstep : ∀ i, i < m → ∀ w, S w → wpOpIn F n P ops (fun _ _ _ => False) i (fun a' w' => a'.eval (.tmp (d + i)) = vs.getD i undef ∧ a'.defers.length = A.defers.length ∧ S w') A w)
    (hend : ∀ w, S w → wpAnyIn F n P .any ops Q r (doneTo m r) A w) : (Code.region id ops true).wpIn F n P Q a w := by
  refine wpIn_region_any hm ?_
  rw [hD.size]
  have hb : ∀ j, (Array.replicate (m + r) false).getD j false = false := fun j => by
    rw [Array.getD_eq_getD_getElem?]
    by_cases h : j < m + r
    · simp [h]
    · simp [Nat.not_lt.1 h]
  have hl : ∀ k, leftB (fun j => (Array.replicate (m + r) false).getD j false) k = k := fun k => by
    induction k with
    | zero => rfl
    | succ k ih => rw [leftB, ih, hb]; rfl
  have h := any_detR (n := n) hD hA hsz hstep hend m (Array.replicate (m + r) false) { w with drawn := w.drawn + 1 } (hl m) (by simp) (fun j h1 h2 => by rw [Array.getD_eq_getD_getElem?]; simp [h2]) (fun i o _ h => by rw [hb] at h; cases h) hS
  have hf : ∀ k, fillTo d vs (fun j => (Array.replicate (m + r) false).getD j false) a k = a := fun k => by
    induction k with
    | zero => rfl
    | succ k ih => rw [fillTo, hb, cond_false, ih]
  rw [hf] at h
  exact h

def detBR (ops : Array Oper) (m d r : Nat) : Bool :=
  decide (0 < r) && (((List.range r).all fun i => decide (r ≤ i + 1) || match ops[m + i + 1]? with | none => false | some o => o.after.toList.any (fun e => Region.binds .any e && (decide (m ≤ e.on) && decide (e.on < m + i + 1)))) &&
  decide (ops.size = m + r) && (((List.range (m + r)).all fun i => match ops[i]? with | none => false | some o => o.after.toList.all (fun e => !(Region.binds .any e) || decide (e.on < i))) &&
  (((List.range m).all fun i => match ops[i]? with | none => false | some o => fineB o (d + i) && o.op.operands.toList.all (readsB m d o)) &&
  ((List.range m).all fun i => (List.range (m + 1)).any fun j => decide (i < j) && match ops[j]? with | none => false | some o => waitsB o i))))
theorem detR_of {ops : Array Oper} {m d r : Nat} (h : detBR ops m d r = true) : DetR ops m d r := by
  unfold detBR at h
  simp only [Bool.and_eq_true, List.all_eq_true, List.mem_range, decide_eq_true_eq] at h
  obtain ⟨h1, ⟨hch, hs⟩, hb, hp, hn⟩ := h
  have hp' : ∀ i o, ops[i]? = some o → i < m → fineB o (d + i) = true ∧ ∀ x ∈ o.op.operands, readsB m d o x = true := fun i o ho hi => by
    have := hp i hi
    rw [ho] at this
    simp only [Bool.and_eq_true, List.all_eq_true] at this
    exact ⟨this.1, fun x hx => this.2 x (by simpa using hx)⟩
  have hget : ∀ i, i < m + r → ∃ o, ops[i]? = some o := fun i hi => ⟨_, Array.getElem?_eq_getElem (by rw [hs]; exact hi)⟩
  refine ⟨hs, h1, fun j o ho hj => ?_, fun i o ho e he hbe => ?_, fun i o ho hi => fine_of (hp' i o ho hi).1, fun i o ho hi x hx j hj hxd => ?_, fun i hi => ?_⟩
  · have hlt := (Array.getElem?_eq_some_iff.1 ho).1
    have := hch (j - m - 1) (by omega)
    simp only [Bool.or_eq_true, decide_eq_true_eq] at this
    rcases this with h | h
    · omega
    · rw [show m + (j - m - 1) + 1 = j by omega, ho] at h
      simp only [List.any_eq_true, Bool.and_eq_true, decide_eq_true_eq] at h
      obtain ⟨e, he, h2, h3, h4⟩ := h
      exact ⟨e, by simpa using he, h2, h3, h4⟩
  · have := hb i (by have := (Array.getElem?_eq_some_iff.1 ho).1; omega)
    rw [ho] at this
    simp only [List.all_eq_true, Bool.or_eq_true, Bool.not_eq_true', decide_eq_true_eq] at this
    rcases this e (by simpa using he) with h | h
    · rw [hbe] at h; cases h
    · exact h
  · have := (hp' i o ho hi).2 x hx
    unfold readsB at this
    simp only [List.all_eq_true, List.mem_range, Bool.or_eq_true] at this
    rcases this j hj with h | h
    · rw [hxd] at h; simp at h
    · exact waits_of h
  · have := hn i hi
    simp only [List.any_eq_true, List.mem_range, Bool.and_eq_true, decide_eq_true_eq] at this
    obtain ⟨j, hj, hij, h⟩ := this
    obtain ⟨o, ho⟩ := hget j (by omega)
    rw [ho] at h
    exact ⟨j, o, hij, by omega, ho, waits_of h⟩

end Go.Proofs.Ytbpegpgbdemomaa
