/-
  A region that draws its order, within whatever fence (a round of a range over a function, too): all operations but the last two tell one value each, whatever the order is, in worlds that keep a word S; then the last two come up, one behind the other.
  The same for a region with a tail: all operations but the last r tell one value each, whatever the order is; then the last r come up, one behind the other.
-/
import Derived.Test.YtiiflegfbieblaaRangeOwn
import Derived.OrdersIn
namespace Go.Proofs.Ytiiflegfbieblaa
open Go.RowKit

/-- The frame in which those of the first k operations that have come up have left their values: the operation j's slot is d + j. -/
def fillTo (d : Nat) (vs : List Value) (b : Nat → Bool) (a : Act) : Nat → Act
  | 0 => a
  | k + 1 => bif b k then (fillTo d vs b a k).put (some (d + k)) (vs.getD k undef) else fillTo d vs b a k
theorem put_size (a : Act) (d : Option Tmp) (v : Value) : (a.put d v).tmps.size = a.tmps.size := by cases d <;> simp [Act.put]
theorem fillTo_size (d : Nat) (vs : List Value) (b : Nat → Bool) (a : Act) (k : Nat) : (fillTo d vs b a k).tmps.size = a.tmps.size := by
  induction k with
  | zero => rfl
  | succ k ih => rw [fillTo]; cases b k <;> simp [put_size, ih]
theorem put_defs (a : Act) (d : Option Tmp) (v : Value) : (a.put d v).defers = a.defers := by cases d <;> rfl
theorem fillTo_congr (d : Nat) (vs : List Value) {b b' : Nat → Bool} (a : Act) (k : Nat) (h : ∀ j, j < k → b j = b' j) : fillTo d vs b a k = fillTo d vs b' a k := by
  induction k with
  | zero => rfl
  | succ k ih => rw [fillTo, fillTo, ih fun j hj => h j (by omega), h k (by omega)]
/-- One more has come up. -/
def upd (b : Nat → Bool) (i j : Nat) : Bool := if j = i then true else b j
theorem fillTo_upd (d : Nat) (vs : List Value) (b : Nat → Bool) (a : Act) (i : Nat) (hb : b i = false) (k : Nat) (hi : i < k) :
    fillTo d vs (upd b i) a k = (fillTo d vs b a k).put (some (d + i)) (vs.getD i undef) := by
  induction k with
  | zero => omega
  | succ k ih =>
    rw [fillTo, fillTo]
    by_cases hik : i = k
    · subst hik
      rw [hb, show upd b i i = true by simp [upd], cond_true, cond_false, fillTo_congr d vs a i (b' := b) fun j hj => by simp [upd]; omega]
    · rw [show upd b i k = b k by simp [upd]; omega, ih (by omega)]
      cases b k
      · rfl
      · rw [cond_true, cond_true]
        exact Act.put_comm _ _ _ (fun e he h' => by have h2 : (some (d + i) : Option Nat) = some (d + k) := he.trans h'.symm; simp at h2; omega)
/-- What is read of a slot that is filled, or that none of the operations fills, is what is read in the end. -/
theorem fillTo_eval (d : Nat) (vs : List Value) (b : Nat → Bool) (a : Act) (x : Operand) (k : Nat) (h : ∀ j, j < k → x = .tmp (d + j) → b j = true) :
    (fillTo d vs b a k).eval x = (fillTo d vs (fun _ => true) a k).eval x := by
  induction k with
  | zero => rfl
  | succ k ih =>
    have ih := ih fun j hj => h j (by omega)
    rw [fillTo, fillTo, cond_true]
    cases hb : b k with
    | false =>
      rw [cond_false, Act.eval_put]
      · exact ih
      · intro e he hx
        simp at he; subst he
        rw [h k (by omega) hx] at hb; cases hb
    | true =>
      rw [cond_true]
      by_cases hx : x = .tmp (d + k)
      · subst hx
        have h1 := fillTo_size d vs b a k
        have h2 := fillTo_size d vs (fun _ => true) a k
        simp only [Act.put, Act.eval, Array.getD_eq_getD_getElem?, Array.getElem?_setIfInBounds, h1, h2, if_true]
      · rw [Act.eval_put (fun d' h' => by simp at h'; subst h'; exact hx), Act.eval_put (fun d' h' => by simp at h'; subst h'; exact hx)]
        exact ih

/-- How many have not come up yet. -/
def leftB (b : Nat → Bool) : Nat → Nat
  | 0 => 0
  | k + 1 => leftB b k + (!b k).toNat
theorem leftB_upd (b : Nat → Bool) (i k : Nat) (hi : i < k) (hb : b i = false) : leftB b k = leftB (upd b i) k + 1 := by
  induction k with
  | zero => omega
  | succ k ih =>
    rw [leftB, leftB]
    by_cases hik : i = k
    · subst hik
      have : ∀ k, k ≤ i → leftB (upd b i) k = leftB b k := fun k => by
        induction k with
        | zero => intro _; rfl
        | succ k ih => intro hk; rw [leftB, leftB, ih (by omega), show upd b i k = b k by simp [upd]; omega]
      rw [this i (Nat.le_refl _), hb, show upd b i i = true by simp [upd]]; rfl
    · rw [show upd b i k = b k by simp [upd]; omega, ih (by omega)]; omega
theorem leftB_none (b : Nat → Bool) (k : Nat) (h : leftB b k = 0) : ∀ j, j < k → b j = true := by
  induction k with
  | zero => intro j hj; omega
  | succ k ih =>
    intro j hj
    rw [leftB] at h
    by_cases hjk : j = k
    · subst hjk; cases hb : b j with
      | true => rfl
      | false => rw [hb] at h; simp at h
    · exact ih (by omega) j (by omega)
theorem leftB_some (b : Nat → Bool) (k : Nat) (h : leftB b k ≠ 0) : ∃ j, j < k ∧ b j = false := by
  induction k with
  | zero => simp [leftB] at h
  | succ k ih =>
    rw [leftB] at h
    cases hb : b k with
    | false => exact ⟨k, by omega, hb⟩
    | true =>
      rw [hb] at h
      obtain ⟨j, hj, h'⟩ := ih (by simpa using h)
      exact ⟨j, by omega, h'⟩
theorem least_of {p : Nat → Prop} [DecidablePred p] : ∀ n, p n → ∃ m, m ≤ n ∧ p m ∧ ∀ j, j < m → ¬ p j := by
  intro n
  induction n using Nat.strongRecOn with
  | _ n ih =>
    intro h
    by_cases hx : ∃ j, j < n ∧ p j
    · obtain ⟨j, hj, hpj⟩ := hx
      obtain ⟨m, hm, h1, h2⟩ := ih j hj hpj
      exact ⟨m, by omega, h1, h2⟩
    · exact ⟨n, Nat.le_refl _, h, fun j hj hpj => hx ⟨j, hj, hpj⟩⟩

/-- The form of such a region: waits go back alone; the slot of each of the first m operations is d and its number, each is waited for by a later one, and reads no slot of the others but of those for which it waits. -/
structure Det (ops : Array Oper) (m d : Nat) : Prop where
  size : ops.size = m + 2
  back : ∀ i o, ops[i]? = some o → ∀ e ∈ o.after, Region.binds .any e = true → e.on < i
  plain : ∀ i o, ops[i]? = some o → i < m → o.dst = some (d + i) ∧ o.guard = none ∧ (∀ c, o.op ≠ .defer c) ∧ ∀ cs b, o.op ≠ .select cs b
  reads : ∀ i o, ops[i]? = some o → i < m → ∀ x ∈ o.op.operands, ∀ j, j < m → x = .tmp (d + j) → ∃ e ∈ o.after, Region.binds .any e = true ∧ e.on = j
  needed : ∀ i, i < m → ∃ j o, i < j ∧ j ≤ m ∧ ops[j]? = some o ∧ ∃ e ∈ o.after, Region.binds .any e = true ∧ e.on = i
  last : ∃ o, ops[m + 1]? = some o ∧ ∃ e ∈ o.after, Region.binds .any e = true ∧ e.on = m

/-- What an operation tells hangs on its operands alone. -/
theorem tells_same {F : Fence} {n : Nat} {P : Program} {o : Oper} {d : Tmp} {A A' : Act} {v : Value} {S : World → Prop} {Q : Exit → Act → World → Prop} {w : World} (hdst : o.dst = some d) (hd : d < A.tmps.size)
    (hnd : ∀ c, o.op ≠ .defer c) (hns : ∀ cs b, o.op ≠ .select cs b) (he : ∀ x ∈ o.op.operands, A'.eval x = A.eval x)
    (h : o.wpIn F n P A w (fun a' w' => a'.eval (.tmp d) = v ∧ a'.defers.length = A.defers.length ∧ S w') (fun _ _ _ => False)) :
    o.wpIn F n P A' w (fun a' w' => a' = A'.put o.dst v ∧ S w') Q := by
  have hv : ∀ u, (A.put o.dst u).eval (.tmp d) = u := fun u => by rw [hdst]; simp [Act.put, Act.eval, Array.getD_eq_getD_getElem?, hd]
  unfold Oper.wpIn at *
  rw [about_congr o w he, Oper.semAt_eq _ _ _ hnd, execOp_congr o hns he]
  rw [Oper.semAt_eq _ _ _ hnd] at h
  refine ⟨h.1, ?_⟩
  have h := h.2
  generalize (execOp A.eval o).run P w = r at *
  cases r with
  | ok x w' =>
    cases x with
    | value u => obtain ⟨h1, _, h3⟩ := h; rw [hv] at h1; subst h1; exact ⟨rfl, h3⟩
    | skip => obtain ⟨h1, _, h3⟩ := h; rw [hv] at h1; subst h1; exact ⟨rfl, h3⟩
    | defer q => obtain ⟨_, h2, _⟩ := h; rw [put_defs] at h2; simp at h2
    | enter f args =>
      refine ⟨h.1, CallsIn.mono h.2 fun e w'' he => ?_⟩
      cases e with
      | returned u => obtain ⟨h1, _, h3⟩ := he; rw [hv] at h1; subst h1; exact ⟨rfl, h3⟩
      | panicked c => exact he.elim
      | outgrown => obtain ⟨_, _, h⟩ := he; exact h.elim
    | row row args => exact ⟨h.1, RowsIn.mono h.2 fun u w'' he => by obtain ⟨h1, _, h3⟩ := he; rw [hv] at h1; subst h1; exact ⟨rfl, h3⟩⟩
    | round l f tmps assign body =>
      refine ⟨h.1, RoundIn.mono h.2 fun e w'' he => ?_⟩
      cases e with
      | returned u => obtain ⟨h1, _, h3⟩ := he; rw [hv] at h1; subst h1; exact ⟨rfl, h3⟩
      | panicked c => exact he.elim
      | outgrown => obtain ⟨_, _, h⟩ := he; exact h.elim
    | _ => exact h.elim
  | halt x w' => cases x <;> exact h.elim

theorem any_det {F : Fence} {n : Nat} {P : Program} {ops : Array Oper} {Q : Exit → Act → World → Prop} {m d : Nat} {vs : List Value} {a A : Act} {S : World → Prop} (hD : Det ops m d) (hA : fillTo d vs (fun _ => true) a m = A)
    (hsz : d + m ≤ a.tmps.size)
    (hstep : ∀ i, i < m → ∀ w, S w → wpOpIn F n P ops (fun _ _ _ => False) i (fun a' w' => a'.eval (.tmp (d + i)) = vs.getD i undef ∧ a'.defers.length = A.defers.length ∧ S w') A w)
    (hend : ∀ w, S w → wpOpIn F n P ops Q m (fun a' w' => wpOpIn F n P ops Q (m + 1) (fun a'' w'' => Q .normal a'' w'') a' w') A w) :
    ∀ (k : Nat) (ls : Array Bool) (w : World), leftB (fun j => ls.getD j false) m = k → ls.size = m + 2 → ls.getD m true = false → ls.getD (m + 1) true = false →
      (∀ i o, ops[i]? = some o → ls.getD i false = true → ∀ e ∈ o.after, Region.binds .any e = true → ls.getD e.on false = true) → S w →
      wpAnyIn F n P .any ops Q (k + 2) ls (fillTo d vs (fun j => ls.getD j false) a m) w := by
  have hds : ∀ {ls : Array Bool}, ls.size = m + 2 → ∀ j, j < m + 2 → ls.getD j true = ls.getD j false := fun hs j hj => by
    rw [Array.getD_eq_getD_getElem?, Array.getD_eq_getD_getElem?, Array.getElem?_eq_getElem (by omega)]; rfl
  have hin : ∀ {ls : Array Bool} {i : Nat}, ls.size = m + 2 → i ∈ Region.ready .any ops ls → i < m + 2 := fun hs hi => by
    obtain ⟨_, o, ho, _⟩ := mem_ready.1 hi
    have := (Array.getElem?_eq_some_iff.1 ho).1
    rw [hD.size] at this; exact this
  intro k
  induction k with
  | zero =>
    intro ls w hk hs hm hm1 hcl hS
    have hall := leftB_none _ m hk
    have hfull : fillTo d vs (fun j => ls.getD j false) a m = A := by rw [← hA]; exact fillTo_congr d vs a m fun j hj => hall j hj
    rw [hfull]
    obtain ⟨ol, hol, el, hel, hbl, hon⟩ := hD.last
    have ho : ∃ o, ops[m]? = some o := ⟨_, Array.getElem?_eq_getElem (by rw [hD.size]; omega)⟩
    obtain ⟨o, ho⟩ := ho
    have hrm : m ∈ Region.ready .any ops ls := mem_ready.2 ⟨hm, o, ho, fun e he hb => hall _ (hD.back m o ho e he hb)⟩
    refine ⟨(fun h => by rw [h] at hrm; cases hrm), fun i hi => ?_⟩
    obtain rfl : i = m := by
      have h2 := hin hs hi
      obtain ⟨hu, oi, hoi, hall'⟩ := mem_ready.1 hi
      rcases Nat.lt_or_ge i m with h | h
      · have := hall i h; rw [hds hs i h2] at hu; rw [hu] at this; cases this
      · rcases (show i = m ∨ i = m + 1 by omega) with h | h
        · exact h
        · subst h
          rw [hol] at hoi
          cases hoi
          have := hall' el hel hbl
          rw [hon, ← hds hs m (by omega), hm] at this; cases this
    refine wpOpIn_mono (fun a' w' h' => ?_) (hend w hS)
    have hs2 : (ls.setIfInBounds i true).size = i + 2 := by simp [hs]
    have hr1 : i + 1 ∈ Region.ready .any ops (ls.setIfInBounds i true) := mem_ready.2 ⟨by rw [getD_set_ne true (by omega)]; exact hm1, ol, hol, fun e he hb => by
      have := hD.back (i + 1) ol hol e he hb
      rcases (show e.on = i ∨ e.on < i by omega) with h | h
      · rw [h]; simp [hs]
      · exact getD_set_true (hall _ h)⟩
    refine ⟨(fun h => by rw [h] at hr1; cases hr1), fun j hj => ?_⟩
    obtain rfl : j = i + 1 := by
      have h2 : j < i + 2 := by
        obtain ⟨_, o, ho, _⟩ := mem_ready.1 hj
        have := (Array.getElem?_eq_some_iff.1 ho).1
        rw [hD.size] at this; exact this
      obtain ⟨hu, oj, hoj, _⟩ := mem_ready.1 hj
      rcases (show j < i ∨ j = i ∨ j = i + 1 by omega) with h | h | h
      · have := hall j h; rw [getD_set_ne true (by omega), hds hs j (by omega)] at hu; rw [hu] at this; cases this
      · subst h; simp [hs] at hu
      · exact h
    refine wpOpIn_mono (fun a'' w'' h'' => ?_) h'
    refine ⟨?_, h''⟩
    rw [List.eq_nil_iff_forall_not_mem]
    intro l hl
    obtain ⟨hu, ol2, hol2, _⟩ := mem_ready.1 hl
    have h2 := (Array.getElem?_eq_some_iff.1 hol2).1
    rw [hD.size] at h2
    rcases (show l < i ∨ l = i ∨ l = i + 1 by omega) with h | h | h
    · have := hall l h; rw [getD_set_ne true (by omega), getD_set_ne true (by omega), hds hs l (by omega)] at hu; rw [hu] at this; cases this
    · subst h; rw [getD_set_ne true (by omega)] at hu; simp [hs] at hu
    · subst h; simp [hs] at hu
  | succ k ih =>
    intro ls w hk hs hm hm1 hcl hS
    obtain ⟨j0, hj0, hb0⟩ := leftB_some (fun j => ls.getD j false) m (by rw [hk]; exact Nat.succ_ne_zero k)
    refine ⟨fun h => ?_, fun i hi => ?_⟩
    · obtain ⟨i, hi, hu, hlow⟩ := least_of (p := fun j => ls.getD j false = false) j0 hb0
      obtain ⟨o, ho⟩ : ∃ o, ops[i]? = some o := ⟨_, Array.getElem?_eq_getElem (by rw [hD.size]; omega)⟩
      have : i ∈ Region.ready .any ops ls := mem_ready.2 ⟨by rw [hds hs i (by omega)]; exact hu, o, ho, fun e he hb => by
        have h1 := hD.back i o ho e he hb
        have := hlow _ h1
        simpa using this⟩
      rw [h] at this; cases this
    · have hi2 := hin hs hi
      obtain ⟨hu, o, ho, hwait⟩ := mem_ready.1 hi
      have him : i < m := by
        refine Nat.lt_of_not_le fun hge => ?_
        -- the last one of the first m that has not come up is waited for by one that has, or by i
        obtain ⟨t, ht, hut, hlow⟩ := least_of (p := fun t => t < m ∧ ls.getD (m - 1 - t) false = false) (m - 1 - j0) ⟨by omega, by rw [show m - 1 - (m - 1 - j0) = j0 by omega]; exact hb0⟩
        obtain ⟨hut1, hut2⟩ := hut
        obtain ⟨j, oj, hij, hjm, hoj, e, he, hb, hon⟩ := hD.needed (m - 1 - t) (by omega)
        by_cases hjj : j = m
        · subst hjj
          rcases (show i = j ∨ i = j + 1 by omega) with h | h
          · subst h
            rw [ho] at hoj; cases hoj
            have := hwait e he hb
            rw [hon, hut2] at this; cases this
          · subst h
            obtain ⟨ol, hol, el, hel, hbl, honl⟩ := hD.last
            rw [hol] at ho; cases ho
            have := hwait el hel hbl
            rw [honl, ← hds hs j (by omega), hm] at this; cases this
        · have hlj : ls.getD j false = true := by
            have := hlow (m - 1 - j) (by omega)
            rw [show m - 1 - (m - 1 - j) = j by omega] at this
            cases hx : ls.getD j false with
            | true => rfl
            | false => exact absurd ⟨by omega, hx⟩ this
          have := hcl j oj hoj hlj e he hb
          rw [hon, hut2] at this; cases this
      have hbi : ls.getD i false = false := by rw [← hds hs i hi2]; exact hu
      obtain ⟨hdst, hgd, hnd, hns⟩ := hD.plain i o ho him
      have hw : ∀ a : Act, Region.wanted o (yielded ops a.tmps) = true := fun a => by simp [Region.wanted, hgd]
      have h1 := hstep i him w hS
      unfold wpOpIn at h1 ⊢
      simp only [ho, hw, if_true] at h1 ⊢
      have h3 := tells_same (A' := fillTo d vs (fun j => ls.getD j false) a m) (Q := Q) hdst (by rw [← hA, fillTo_size]; exact Nat.lt_of_lt_of_le (Nat.add_lt_add_left him d) hsz) hnd hns (fun x hx => by
        rw [← hA]
        refine fillTo_eval d vs _ a x m fun j hj hxd => ?_
        obtain ⟨e, he, hb, hon⟩ := hD.reads i o ho him x hx j hj hxd
        have := hwait e he hb
        rw [hon] at this; exact this) h1
      refine Oper.wpIn_mono (fun a' w' h => ?_) h3
      obtain ⟨rfl, hS'⟩ := h
      have hbu : (fun j => (ls.setIfInBounds i true).getD j false) = upd (fun j => ls.getD j false) i := by
        funext j
        unfold upd
        by_cases hj : j = i
        · subst hj; rw [if_pos rfl]; simp [hs, hi2]
        · rw [if_neg hj, getD_set_ne false (Ne.symm hj)]
      have hfin := ih (ls.setIfInBounds i true) w' (by rw [hbu]; have := leftB_upd (fun j => ls.getD j false) i m him hbi; omega) (by simp [hs]) (by rw [getD_set_ne true (by omega)]; exact hm) (by rw [getD_set_ne true (by omega)]; exact hm1)
        (fun l ol hol hl e he hb => by
          by_cases hli : l = i
          · subst hli
            rw [ho] at hol; cases hol
            exact getD_set_true (hwait e he hb)
          · rw [getD_set_ne false (Ne.symm hli)] at hl
            exact getD_set_true (hcl l ol hol hl e he hb)) hS'
      rw [hbu, fillTo_upd d vs _ a i hbi m him, ← hdst] at hfin
      exact hfin

/-- The whole region. -/
theorem region_det {F : Fence} {n : Nat} {P : Program} {id : Nat} {ops : Array Oper} {Q : Exit → Act → World → Prop} (m d : Nat) (vs : List Value) {a : Act} (A : Act) (S : World → Prop) {w : World} (hm : P.follows .mixedOrders = true) (hD : Det ops m d) (hA : fillTo d vs (fun _ => true) a m = A)
    (hsz : d + m ≤ a.tmps.size) (hS : S { w with drawn := w.drawn + 1 })
    (hstep : ∀ i, i < m → ∀ w, S w → wpOpIn F n P ops (fun _ _ _ => False) i (fun a' w' => a'.eval (.tmp (d + i)) = vs.getD i undef ∧ a'.defers.length = A.defers.length ∧ S w') A w)
    (hend : ∀ w, S w → wpOpIn F n P ops Q m (fun a' w' => wpOpIn F n P ops Q (m + 1) (fun a'' w'' => Q .normal a'' w'') a' w') A w) : (Code.region id ops true).wpIn F n P Q a w := by
  refine wpIn_region_any hm ?_
  rw [hD.size]
  have hb : ∀ j, (Array.replicate (m + 2) false).getD j false = false := fun j => by
    rw [Array.getD_eq_getD_getElem?]
    by_cases h : j < m + 2
    · simp [h]
    · simp [Nat.not_lt.1 h]
  have hl : ∀ k, leftB (fun j => (Array.replicate (m + 2) false).getD j false) k = k := fun k => by
    induction k with
    | zero => rfl
    | succ k ih => rw [leftB, ih, hb]; rfl
  have h := any_det (n := n) hD hA hsz hstep hend m (Array.replicate (m + 2) false) { w with drawn := w.drawn + 1 } (hl m) (by simp) (by simp) (by simp) (fun i o _ h => by rw [hb] at h; cases h) hS
  have hf : ∀ k, fillTo d vs (fun j => (Array.replicate (m + 2) false).getD j false) a k = a := fun k => by
    induction k with
    | zero => rfl
    | succ k ih => rw [fillTo, hb, cond_false, ih]
  rw [hf] at h
  exact h

/-- Whether a region has that form. -/
def waitsB (o : Oper) (j : Nat) : Bool := o.after.toList.any fun e => Region.binds .any e && e.on == j
def fineB (o : Oper) (t : Nat) : Bool := decide (o.dst = some t) && o.guard.isNone && (match o.op with | .defer _ => false | .select _ _ => false | _ => true)
def readsB (m d : Nat) (o : Oper) (x : Operand) : Bool := (List.range m).all fun j => (match x with | .tmp t => t != d + j | _ => true) || waitsB o j
def detB (ops : Array Oper) (m d : Nat) : Bool :=
  decide (ops.size = m + 2) && (((List.range (m + 2)).all fun i => match ops[i]? with | none => false | some o => o.after.toList.all (fun e => !(Region.binds .any e) || decide (e.on < i))) &&
  (((List.range m).all fun i => match ops[i]? with | none => false | some o => fineB o (d + i) && o.op.operands.toList.all (readsB m d o)) &&
  (((List.range m).all fun i => (List.range (m + 1)).any fun j => decide (i < j) && match ops[j]? with | none => false | some o => waitsB o i) &&
  match ops[m + 1]? with | none => false | some o => waitsB o m)))

theorem waits_of {o : Oper} {j : Nat} (h : waitsB o j = true) : ∃ e ∈ o.after, Region.binds .any e = true ∧ e.on = j := by
  unfold waitsB at h
  simp only [List.any_eq_true, Bool.and_eq_true, beq_iff_eq] at h
  obtain ⟨e, he, h1, h2⟩ := h
  exact ⟨e, by simpa using he, h1, h2⟩
theorem fine_of {o : Oper} {t : Nat} (h : fineB o t = true) : o.dst = some t ∧ o.guard = none ∧ (∀ c, o.op ≠ .defer c) ∧ ∀ cs b, o.op ≠ .select cs b := by
  unfold fineB at h
  simp only [Bool.and_eq_true, decide_eq_true_eq] at h
  obtain ⟨⟨h1, h2⟩, h3⟩ := h
  refine ⟨h1, by simpa using h2, fun c hc => ?_, fun cs b hc => ?_⟩
  · rw [hc] at h3; cases h3
  · rw [hc] at h3; cases h3
theorem det_of {ops : Array Oper} {m d : Nat} (h : detB ops m d = true) : Det ops m d := by
  unfold detB at h
  simp only [Bool.and_eq_true, List.all_eq_true, List.mem_range, decide_eq_true_eq] at h
  obtain ⟨hs, hb, hp, hn, hl⟩ := h
  have hp' : ∀ i o, ops[i]? = some o → i < m → fineB o (d + i) = true ∧ ∀ x ∈ o.op.operands, readsB m d o x = true := fun i o ho hi => by
    have := hp i hi
    rw [ho] at this
    simp only [Bool.and_eq_true, List.all_eq_true] at this
    exact ⟨this.1, fun x hx => this.2 x (by simpa using hx)⟩
  have hget : ∀ i, i < m + 2 → ∃ o, ops[i]? = some o := fun i hi => ⟨_, Array.getElem?_eq_getElem (by rw [hs]; exact hi)⟩
  refine ⟨hs, fun i o ho e he hbe => ?_, fun i o ho hi => fine_of (hp' i o ho hi).1, fun i o ho hi x hx j hj hxd => ?_, fun i hi => ?_, ?_⟩
  · have := hb i (by have := (Array.getElem?_eq_some_iff.1 ho).1; omega)
    rw [ho] at this
    simp only [List.all_eq_true, Bool.or_eq_true, Bool.not_eq_true', decide_eq_true_eq] at this
    rcases this e (by simpa using he) with h | h
    · rw [hbe] at h; cases h
    · exact h
  · have := (hp' i o ho hi).2 x hx
    unfold readsB at this
    simp only [List.all_eq_true, List.mem_range, Bool.or_eq_true] at this
    rcases this j hj with h | h
    · rw [hxd] at h; simp at h
    · exact waits_of h
  · have := hn i hi
    simp only [List.any_eq_true, List.mem_range, Bool.and_eq_true, decide_eq_true_eq] at this
    obtain ⟨j, hj, hij, h⟩ := this
    obtain ⟨o, ho⟩ := hget j (by omega)
    rw [ho] at h
    exact ⟨j, o, hij, by omega, ho, waits_of h⟩
  · obtain ⟨o, ho⟩ := hget (m + 1) (by omega)
    rw [ho] at hl
    exact ⟨o, ho, waits_of hl⟩

end Go.Proofs.Ytiiflegfbieblaa

namespace Go.Proofs.Ytiiflegfbieblaa
open Go.RowKit

structure DetN (ops : Array Oper) (m d r : Nat) : Prop where
  size : ops.size = m + r
  one : 0 < r
  chain : ∀ j, m ≤ j → j + 1 < m + r → ∃ o, ops[j + 1]? = some o ∧ ∃ e ∈ o.after, Region.binds .any e = true ∧ e.on = j
  back : ∀ i o, ops[i]? = some o → ∀ e ∈ o.after, Region.binds .any e = true → e.on < i
  plain : ∀ i o, ops[i]? = some o → i < m → o.dst = some (d + i) ∧ o.guard = none ∧ (∀ c, o.op ≠ .defer c) ∧ ∀ cs b, o.op ≠ .select cs b
  reads : ∀ i o, ops[i]? = some o → i < m → ∀ x ∈ o.op.operands, ∀ j, j < m → x = .tmp (d + j) → ∃ e ∈ o.after, Region.binds .any e = true ∧ e.on = j
  needed : ∀ i, i < m → ∃ j o, i < j ∧ j ≤ m ∧ ops[j]? = some o ∧ ∃ e ∈ o.after, Region.binds .any e = true ∧ e.on = i

/-- The operations from i on, r of them, one behind the other. -/
def tailIn (F : Fence) (n : Nat) (P : Program) (ops : Array Oper) (Q : Exit → Act → World → Prop) : Nat → Nat → Act → World → Prop
  | 0, _, a, w => Q .normal a w
  | r + 1, i, a, w => wpOpIn F n P ops Q i (fun a' w' => tailIn F n P ops Q r (i + 1) a' w') a w

theorem tail_run {F : Fence} {n : Nat} {P : Program} {ops : Array Oper} {Q : Exit → Act → World → Prop} {m d r : Nat} (hD : DetN ops m d r) :
    ∀ (k i : Nat) (ls : Array Bool) (a : Act) (w : World), i + k = m + r → m ≤ i → ls.size = m + r → (∀ j, j < i → ls.getD j false = true) → (∀ j, i ≤ j → j < m + r → ls.getD j true = false) → tailIn F n P ops Q k i a w → wpAnyIn F n P .any ops Q k ls a w := by
  intro k
  induction k with
  | zero =>
    intro i ls a w hi _ hs hdone _ h
    refine ⟨?_, h⟩
    rw [List.eq_nil_iff_forall_not_mem]
    intro l hl
    obtain ⟨hu, ol, hol, _⟩ := mem_ready.1 hl
    have h2 := (Array.getElem?_eq_some_iff.1 hol).1
    rw [hD.size] at h2
    have := hdone l (by omega)
    rw [Array.getD_eq_getD_getElem?, Array.getElem?_eq_getElem (by omega)] at this hu
    rw [Option.getD_some] at this hu
    rw [this] at hu; cases hu
  | succ k ih =>
    intro i ls a w hi him hs hdone hleft h
    obtain ⟨o, ho⟩ : ∃ o, ops[i]? = some o := ⟨_, Array.getElem?_eq_getElem (by rw [hD.size]; omega)⟩
    have hr : i ∈ Region.ready .any ops ls := mem_ready.2 ⟨hleft i (Nat.le_refl _) (by omega), o, ho, fun e he hb => hdone _ (hD.back i o ho e he hb)⟩
    refine ⟨(fun h => by rw [h] at hr; cases hr), fun j hj => ?_⟩
    obtain rfl : j = i := by
      obtain ⟨hu, oj, hoj, hw⟩ := mem_ready.1 hj
      have h2 := (Array.getElem?_eq_some_iff.1 hoj).1
      rw [hD.size] at h2
      rcases (show j < i ∨ j = i ∨ i < j by omega) with h | h | h
      · have := hdone j h
        rw [Array.getD_eq_getD_getElem?, Array.getElem?_eq_getElem (by omega)] at this hu
        rw [Option.getD_some] at this hu
        rw [this] at hu; cases hu
      · exact h
      · obtain ⟨o2, ho2, e, he, hb, hon⟩ := hD.chain (j - 1) (by omega) (by omega)
        rw [show j - 1 + 1 = j by omega] at ho2
        rw [ho2] at hoj; cases hoj
        have h3 := hw e he hb
        have h4 := hleft (j - 1) (by omega) (by omega)
        rw [hon] at h3
        rw [Array.getD_eq_getD_getElem?, Array.getElem?_eq_getElem (by omega)] at h3 h4
        rw [Option.getD_some] at h3 h4
        rw [h3] at h4; cases h4
    refine wpOpIn_mono (fun a' w' h' => ?_) h
    refine ih (j + 1) _ a' w' (by omega) (by omega) (by simp [hs]) (fun q hq => ?_) (fun q h1 h2 => by rw [getD_set_ne true (by omega)]; exact hleft q (by omega) h2) h'
    rcases (show q < j ∨ q = j by omega) with h | h
    · exact getD_set_true (hdone q h)
    · subst h; simp [hs]; omega

theorem any_detN {F : Fence} {n : Nat} {P : Program} {ops : Array Oper} {Q : Exit → Act → World → Prop} {m d r : Nat} {vs : List Value} {a A : Act} {S : World → Prop} (hD : DetN ops m d r) (hA : fillTo d vs (fun _ => true) a m = A)
    (hsz : d + m ≤ a.tmps.size)
    (hstep : ∀ i, i < m → ∀ w, S w → wpOpIn F n P ops (fun _ _ _ => False) i (fun a' w' => a'.eval (.tmp (d + i)) = vs.getD i undef ∧ a'.defers.length = A.defers.length ∧ S w') A w)
    (hend : ∀ w, S w → tailIn F n P ops Q r m A w) :
    ∀ (k : Nat) (ls : Array Bool) (w : World), leftB (fun j => ls.getD j false) m = k → ls.size = m + r → (∀ j, m ≤ j → j < m + r → ls.getD j true = false) →
      (∀ i o, ops[i]? = some o → ls.getD i false = true → ∀ e ∈ o.after, Region.binds .any e = true → ls.getD e.on false = true) → S w →
      wpAnyIn F n P .any ops Q (k + r) ls (fillTo d vs (fun j => ls.getD j false) a m) w := by
  have hds : ∀ {ls : Array Bool}, ls.size = m + r → ∀ j, j < m + r → ls.getD j true = ls.getD j false := fun hs j hj => by
    rw [Array.getD_eq_getD_getElem?, Array.getD_eq_getD_getElem?, Array.getElem?_eq_getElem (by omega)]; rfl
  have hin : ∀ {ls : Array Bool} {i : Nat}, ls.size = m + r → i ∈ Region.ready .any ops ls → i < m + r := fun hs hi => by
    obtain ⟨_, o, ho, _⟩ := mem_ready.1 hi
    have := (Array.getElem?_eq_some_iff.1 ho).1
    rw [hD.size] at this; exact this
  intro k
  induction k with
  | zero =>
    intro ls w hk hs hm hcl hS
    have hall := leftB_none _ m hk
    have hfull : fillTo d vs (fun j => ls.getD j false) a m = A := by rw [← hA]; exact fillTo_congr d vs a m fun j hj => hall j hj
    rw [hfull, Nat.zero_add]
    exact tail_run hD r m ls A w rfl (Nat.le_refl _) hs hall hm (hend w hS)
  | succ k ih =>
    intro ls w hk hs hm hcl hS
    rw [Nat.succ_add]
    obtain ⟨j0, hj0, hb0⟩ := leftB_some (fun j => ls.getD j false) m (by rw [hk]; exact Nat.succ_ne_zero k)
    refine ⟨fun h => ?_, fun i hi => ?_⟩
    · obtain ⟨i, hi, hu, hlow⟩ := least_of (p := fun j => ls.getD j false = false) j0 hb0
      obtain ⟨o, ho⟩ : ∃ o, ops[i]? = some o := ⟨_, Array.getElem?_eq_getElem (by rw [hD.size]; omega)⟩
      have : i ∈ Region.ready .any ops ls := mem_ready.2 ⟨by rw [hds hs i (by omega)]; exact hu, o, ho, fun e he hb => by
        have h1 := hD.back i o ho e he hb
        have := hlow _ h1
        simpa using this⟩
      rw [h] at this; cases this
    · have hi2 := hin hs hi
      obtain ⟨hu, o, ho, hwait⟩ := mem_ready.1 hi
      have him : i < m := by
        refine Nat.lt_of_not_le fun hge => ?_
        -- the last one of the first m that has not come up is waited for by one that has, or by i
        obtain ⟨t, ht, hut, hlow⟩ := least_of (p := fun t => t < m ∧ ls.getD (m - 1 - t) false = false) (m - 1 - j0) ⟨by omega, by rw [show m - 1 - (m - 1 - j0) = j0 by omega]; exact hb0⟩
        obtain ⟨hut1, hut2⟩ := hut
        obtain ⟨j, oj, hij, hjm, hoj, e, he, hb, hon⟩ := hD.needed (m - 1 - t) (by omega)
        by_cases hjj : j = m
        · subst hjj
          obtain rfl : i = j := by
            rcases (show i = j ∨ j < i by omega) with h | h
            · exact h
            · obtain ⟨o2, ho2, e2, he2, hb2, hon2⟩ := hD.chain (i - 1) (by omega) (by omega)
              rw [show i - 1 + 1 = i by omega] at ho2
              rw [ho2] at ho; cases ho
              have h3 := hwait e2 he2 hb2
              have h4 := hm (i - 1) (by omega) (by omega)
              rw [hon2, ← hds hs (i - 1) (by omega), h4] at h3; cases h3
          rw [ho] at hoj; cases hoj
          have := hwait e he hb
          rw [hon, hut2] at this; cases this
        · have hlj : ls.getD j false = true := by
            have := hlow (m - 1 - j) (by omega)
            rw [show m - 1 - (m - 1 - j) = j by omega] at this
            cases hx : ls.getD j false with
            | true => rfl
            | false => exact absurd ⟨by omega, hx⟩ this
          have := hcl j oj hoj hlj e he hb
          rw [hon, hut2] at this; cases this
      have hbi : ls.getD i false = false := by rw [← hds hs i hi2]; exact hu
      obtain ⟨hdst, hgd, hnd, hns⟩ := hD.plain i o ho him
      have hw : ∀ a : Act, Region.wanted o (yielded ops a.tmps) = true := fun a => by simp [Region.wanted, hgd]
      have h1 := hstep i him w hS
      unfold wpOpIn at h1 ⊢
      simp only [ho, hw, if_true] at h1 ⊢
      have h3 := tells_same (A' := fillTo d vs (fun j => ls.getD j false) a m) (Q := Q) hdst (by rw [← hA, fillTo_size]; exact Nat.lt_of_lt_of_le (Nat.add_lt_add_left him d) hsz) hnd hns (fun x hx => by
        rw [← hA]
        refine fillTo_eval d vs _ a x m fun j hj hxd => ?_
        obtain ⟨e, he, hb, hon⟩ := hD.reads i o ho him x hx j hj hxd
        have := hwait e he hb
        rw [hon] at this; exact this) h1
      refine Oper.wpIn_mono (fun a' w' h => ?_) h3
      obtain ⟨rfl, hS'⟩ := h
      have hbu : (fun j => (ls.setIfInBounds i true).getD j false) = upd (fun j => ls.getD j false) i := by
        funext j
        unfold upd
        by_cases hj : j = i
        · subst hj; rw [if_pos rfl]; simp [hs, hi2]
        · rw [if_neg hj, getD_set_ne false (Ne.symm hj)]
      have hfin := ih (ls.setIfInBounds i true) w' (by rw [hbu]; have := leftB_upd (fun j => ls.getD j false) i m him hbi; omega) (by simp [hs]) (fun j h1 h2 => by rw [getD_set_ne true (by omega)]; exact hm j h1 h2)
        (fun l ol hol hl e he hb => by
          by_cases hli : l = i
          · subst hli
            rw [ho] at hol; cases hol
            exact getD_set_true (hwait e he hb)
          · rw [getD_set_ne false (Ne.symm hli)] at hl
            exact getD_set_true (hcl l ol hol hl e he hb)) hS'
      rw [hbu, fillTo_upd d vs _ a i hbi m him, ← hdst] at hfin
      exact hfin

/-- The whole region. -/
theorem region_detN {F : Fence} {n : Nat} {P : Program} {id : Nat} {ops : Array Oper} {Q : Exit → Act → World → Prop} (m d r : Nat) (vs : List Value) {a : Act} (A : Act) (S : World → Prop) {w : World} (hm : P.follows .mixedOrders = true) (hD : DetN ops m d r) (hA : fillTo d vs (fun _ => true) a m = A)
    (hsz : d + m ≤ a.tmps.size) (hS : S { w with drawn := w.drawn + 1 })
    (hstep : ∀ i, i < m → ∀ w, S w → wpOpIn F n P ops (fun _ _ _ => False) i (fun a' w' => a'.eval (.tmp (d + i)) = vs.getD i undef ∧ a'.defers.length = A.defers.length ∧ S w') A w)
    (hend : ∀ w, S w → tailIn F n P ops Q r m A w) : (Code.region id ops true).wpIn F n P Q a w := by
  refine wpIn_region_any hm ?_
  rw [hD.size]
  have hb : ∀ j, (Array.replicate (m + r) false).getD j false = false := fun j => by
    rw [Array.getD_eq_getD_getElem?]
    by_cases h : j < m + r
    · simp [h]
    · simp [Nat.not_lt.1 h]
  have hl : ∀ k, leftB (fun j => (Array.replicate (m + r) false).getD j false) k = k := fun k => by
    induction k with
    | zero => rfl
    | succ k ih => rw [leftB, ih, hb]; rfl
  have h := any_detN (n := n) hD hA hsz hstep hend m (Array.replicate (m + r) false) { w with drawn := w.drawn + 1 } (hl m) (by simp) (fun j h1 h2 => by rw [Array.getD_eq_getD_getElem?]; simp [h2]) (fun i o _ h => by rw [hb] at h; cases h) hS
  have hf : ∀ k, fillTo d vs (fun j => (Array.replicate (m + r) false).getD j false) a k = a := fun k => by
    induction k with
    | zero => rfl
    | succ k ih => rw [fillTo, hb, cond_false, ih]
  rw [hf] at h
  exact h

def detBN (ops : Array Oper) (m d r : Nat) : Bool :=
  decide (0 < r) && (((List.range r).all fun i => decide (r ≤ i + 1) || match ops[m + i + 1]? with | none => false | some o => waitsB o (m + i)) &&
  decide (ops.size = m + r) && (((List.range (m + r)).all fun i => match ops[i]? with | none => false | some o => o.after.toList.all (fun e => !(Region.binds .any e) || decide (e.on < i))) &&
  (((List.range m).all fun i => match ops[i]? with | none => false | some o => fineB o (d + i) && o.op.operands.toList.all (readsB m d o)) &&
  ((List.range m).all fun i => (List.range (m + 1)).any fun j => decide (i < j) && match ops[j]? with | none => false | some o => waitsB o i))))
theorem detN_of {ops : Array Oper} {m d r : Nat} (h : detBN ops m d r = true) : DetN ops m d r := by
  unfold detBN at h
  simp only [Bool.and_eq_true, List.all_eq_true, List.mem_range, decide_eq_true_eq] at h
  obtain ⟨h1, ⟨hch, hs⟩, hb, hp, hn⟩ := h
  have hp' : ∀ i o, ops[i]? = some o → i < m → fineB o (d + i) = true ∧ ∀ x ∈ o.op.operands, readsB m d o x = true := fun i o ho hi => by
    have := hp i hi
    rw [ho] at this
    simp only [Bool.and_eq_true, List.all_eq_true] at this
    exact ⟨this.1, fun x hx => this.2 x (by simpa using hx)⟩
  have hget : ∀ i, i < m + r → ∃ o, ops[i]? = some o := fun i hi => ⟨_, Array.getElem?_eq_getElem (by rw [hs]; exact hi)⟩
  refine ⟨hs, h1, fun j hj1 hj2 => ?_, fun i o ho e he hbe => ?_, fun i o ho hi => fine_of (hp' i o ho hi).1, fun i o ho hi x hx j hj hxd => ?_, fun i hi => ?_⟩
  · have := hch (j - m) (by omega)
    simp only [Bool.or_eq_true, decide_eq_true_eq] at this
    rcases this with h | h
    · omega
    · obtain ⟨o, ho⟩ := hget (j + 1) hj2
      rw [show m + (j - m) + 1 = j + 1 by omega, ho] at h
      have h := waits_of h
      rw [show m + (j - m) = j by omega] at h
      exact ⟨o, ho, h⟩
  · have := hb i (by have := (Array.getElem?_eq_some_iff.1 ho).1; omega)
    rw [ho] at this
    simp only [List.all_eq_true, Bool.or_eq_true, Bool.not_eq_true', decide_eq_true_eq] at this
    rcases this e (by simpa using he) with h | h
    · rw [hbe] at h; cases h
    · exact h
  · have := (hp' i o ho hi).2 x hx
    unfold readsB at this
    simp only [List.all_eq_true, List.mem_range, Bool.or_eq_true] at this
    rcases this j hj with h | h
    · rw [hxd] at h; simp at h
    · exact waits_of h
  · have := hn i hi
    simp only [List.any_eq_true, List.mem_range, Bool.and_eq_true, decide_eq_true_eq] at this
    obtain ⟨j, hj, hij, h⟩ := this
    obtain ⟨o, ho⟩ := hget j (by omega)
    rw [ho] at h
    exact ⟨j, o, hij, by omega, ho, waits_of h⟩

end Go.Proofs.Ytiiflegfbieblaa
