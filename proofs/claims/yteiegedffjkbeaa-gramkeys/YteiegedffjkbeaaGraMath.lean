/-
  gram, plainly: how n-grams stand, their keys, and sums.
-/
import Derived.Test.YteiegedffjkbeaaWireMath
namespace Go.Proofs.Yteiegedffjkbeaa
open Go.RowKit

/-- How two lists stand: -1, 0 or 1. -/
def cmpL : List Int → List Int → Int
  | [], [] => 0
  | [], _ :: _ => -1
  | _ :: _, [] => 1
  | a :: x, b :: y => if a < b then -1 else if b < a then 1 else cmpL x y
theorem cmpL_rng : ∀ a b : List Int, cmpL a b = -1 ∨ cmpL a b = 0 ∨ cmpL a b = 1
  | [], [] => .inr (.inl rfl)
  | [], _ :: _ => .inl rfl
  | _ :: _, [] => .inr (.inr rfl)
  | a :: x, b :: y => by
    rw [cmpL]
    split
    · exact .inl rfl
    · split
      · exact .inr (.inr rfl)
      · exact cmpL_rng x y
theorem cmpL_swap : ∀ a b : List Int, cmpL b a = - cmpL a b
  | [], [] => rfl
  | [], _ :: _ => rfl
  | _ :: _, [] => rfl
  | a :: x, b :: y => by
    rw [cmpL, cmpL]
    by_cases h1 : a < b
    · rw [if_pos h1, if_neg (by omega), if_pos h1]; rfl
    · by_cases h2 : b < a
      · rw [if_pos h2, if_neg h1, if_pos h2]
      · rw [if_neg h2, if_neg h1, if_neg h1, if_neg h2, cmpL_swap x y]
theorem cmpL_zero : ∀ a b : List Int, cmpL a b = 0 ↔ a = b
  | [], [] => by simp [cmpL]
  | [], _ :: _ => by simp [cmpL]
  | _ :: _, [] => by simp [cmpL]
  | a :: x, b :: y => by
    rw [cmpL]
    by_cases h1 : a < b
    · rw [if_pos h1]
      constructor
      · intro h; omega
      · intro h; have := (List.cons.inj h).1; omega
    · by_cases h2 : b < a
      · rw [if_neg h1, if_pos h2]
        constructor
        · intro h; omega
        · intro h; have := (List.cons.inj h).1; omega
      · rw [if_neg h1, if_neg h2, cmpL_zero x y]
        constructor
        · rintro rfl; rw [show a = b by omega]
        · intro h; exact (List.cons.inj h).2
theorem cmpL_self (a : List Int) : cmpL a a = 0 := (cmpL_zero a a).2 rfl
theorem cmpL_trans : ∀ {a b c : List Int}, cmpL a b < 0 → cmpL b c < 0 → cmpL a c < 0
  | [], [], _, h, _ => by simp [cmpL] at h
  | [], _ :: _, [], _, h => by simp [cmpL] at h
  | [], _ :: _, _ :: _, _, _ => by simp [cmpL]
  | _ :: _, [], _, h, _ => by simp [cmpL] at h
  | _ :: _, _ :: _, [], _, h => by simp [cmpL] at h
  | a :: x, b :: y, c :: z, h, k => by
    rw [cmpL] at h k ⊢
    by_cases h1 : a < b
    · by_cases k1 : b < c
      · rw [if_pos (by omega)]; omega
      · rw [if_neg k1] at k
        by_cases k2 : c < b
        · rw [if_pos k2] at k; omega
        · rw [if_pos (by omega)]; omega
    · rw [if_neg h1] at h
      by_cases h2 : b < a
      · rw [if_pos h2] at h; omega
      · rw [if_neg h2] at h
        by_cases k1 : b < c
        · rw [if_pos (by omega)]; omega
        · rw [if_neg k1] at k
          by_cases k2 : c < b
          · rw [if_pos k2] at k; omega
          · rw [if_neg k2] at k
            rw [if_neg (by omega), if_neg (by omega)]
            exact cmpL_trans h k
theorem cmpL_le_trans {a b c : List Int} (h : cmpL a b < 0) (k : cmpL b c ≤ 0) : cmpL a c < 0 := by
  rcases cmpL_rng b c with e | e | e
  · exact cmpL_trans h (by omega)
  · rw [← (cmpL_zero b c).1 e]; exact h
  · omega
theorem cmpL_drop {a b : List Int} {i : Nat} (ha : i < a.length) (hb : i < b.length) : cmpL (a.drop i) (b.drop i) = if a.getD i 0 < b.getD i 0 then -1 else if b.getD i 0 < a.getD i 0 then 1 else cmpL (a.drop (i + 1)) (b.drop (i + 1)) := by
  rw [List.drop_eq_getElem_cons ha, List.drop_eq_getElem_cons hb, cmpL]
  simp [List.getD, ha, hb]
theorem cmpL_same {a b : List Int} {i : Nat} (ha : i < a.length) (hb : i < b.length) (h : a.getD i 0 = b.getD i 0) : cmpL (a.drop i) (b.drop i) = cmpL (a.drop (i + 1)) (b.drop (i + 1)) := by
  rw [cmpL_drop ha hb, h, if_neg (by omega), if_neg (by omega)]
theorem cmpL_end {a b : List Int} {i : Nat} (h : i = a.length ∨ i = b.length) (hi : i ≤ a.length) (hj : i ≤ b.length) : cmpL (a.drop i) (b.drop i) = if a.length < b.length then -1 else if b.length < a.length then 1 else 0 := by
  rcases h with h | h
  · subst h
    rw [List.drop_length]
    by_cases e : a.length < b.length
    · rw [if_pos e, List.drop_eq_getElem_cons e]; rfl
    · rw [if_neg e, if_neg (by omega), List.drop_eq_nil_of_le (by omega)]; rfl
  · subst h
    rw [List.drop_length]
    by_cases e : b.length < a.length
    · rw [if_neg (by omega), if_pos e, List.drop_eq_getElem_cons e]; rfl
    · rw [if_neg (by omega), if_neg e, List.drop_eq_nil_of_le (by omega)]; rfl
theorem rev_get (a : List Int) {i : Nat} (h : i < a.length) : a.reverse.getD i 0 = a.getD (a.length - 1 - i) 0 := by
  simp [List.getD, List.getElem?_reverse h]

/-- The sum of two numbers, as Go has it. -/
def add64 (a b : Int) : Int := IntKind.i64.wrap (a + b)
theorem wrap_i64 (x : Int) : IntKind.i64.wrap x = (x + 9223372036854775808) % 18446744073709551616 - 9223372036854775808 := by
  simp [IntKind.wrap, IntKind.bits, IntKind.signed]
  omega
theorem add_wrap (a b : Int) : add64 (IntKind.i64.wrap a) b = IntKind.i64.wrap (a + b) := by
  unfold add64
  simp only [wrap_i64]
  omega
/-- It is a number that Go has. -/
def Fit (x : Int) : Prop := IntKind.i64.wrap x = x
theorem Fit.of {x : Int} (h : -9223372036854775808 ≤ x ∧ x ≤ 9223372036854775807) : Fit x := by unfold Fit; rw [wrap_i64]; omega
theorem fit_add (a b : Int) : Fit (add64 a b) := by unfold Fit add64; simp only [wrap_i64]; omega

/-- An n-gram with its number. -/
abbrev CE := List Int × Int
/-- A list that rises. -/
def Ris (l : List CE) : Prop := l.Pairwise fun x y => cmpL x.1 y.1 < 0
/-- The document's Put. -/
def putL : List CE → CE → Bool → List CE
  | [], x, laid => if laid then [] else [x]
  | y :: l, x, laid => (if 0 < cmpL y.1 x.1 ∧ laid = false then [x] else []) ++ ((if cmpL y.1 x.1 = 0 then (y.1, add64 y.2 x.2) else y) :: putL l x (laid || decide (0 ≤ cmpL y.1 x.1)))
/-- An n-gram more in a list that rises. -/
def ins : List CE → CE → List CE
  | [], x => [x]
  | y :: l, x => if cmpL y.1 x.1 < 0 then y :: ins l x else if cmpL y.1 x.1 = 0 then (y.1, add64 y.2 x.2) :: l else x :: y :: l
theorem putL_true : ∀ (l : List CE) (x : CE), (∀ y ∈ l, 0 < cmpL y.1 x.1) → putL l x true = l
  | [], _, _ => rfl
  | y :: l, x, h => by
    have hy := h y (by simp)
    rw [putL, if_neg (by simp), if_neg (by omega)]
    simp only [List.nil_append, Bool.true_or]
    rw [putL_true l x fun z hz => h z (by simp [hz])]
theorem putL_ins : ∀ (l : List CE) (x : CE), Ris l → putL l x false = ins l x
  | [], _, _ => rfl
  | y :: l, x, h => by
    obtain ⟨h1, h2⟩ := List.pairwise_cons.1 h
    rw [putL, ins]
    by_cases c1 : cmpL y.1 x.1 < 0
    · rw [if_neg (by omega), if_neg (by omega), if_pos c1, show decide (0 ≤ cmpL y.1 x.1) = false by simp; omega]
      simp only [List.nil_append, Bool.or_false]
      rw [putL_ins l x h2]
    · have hrest : ∀ z ∈ l, 0 < cmpL z.1 x.1 := fun z hz => by
        have hz := h1 z hz
        rw [cmpL_swap]
        have := cmpL_swap y.1 x.1
        have hx : cmpL x.1 z.1 < 0 := by
          rcases cmpL_rng x.1 y.1 with e | e | e
          · exact cmpL_trans (by omega) hz
          · rw [(cmpL_zero _ _).1 e]; exact hz
          · omega
        omega
      rw [show decide (0 ≤ cmpL y.1 x.1) = true by simp; omega]
      simp only [Bool.false_or]
      rw [putL_true l x hrest, if_neg c1]
      by_cases c2 : cmpL y.1 x.1 = 0
      · rw [if_neg (by omega), if_pos c2, if_pos c2]; rfl
      · rw [if_pos ⟨by omega, True.intro⟩, if_neg c2, if_neg c2]; rfl
theorem ins_key : ∀ (l : List CE) (x z : CE), z ∈ ins l x → z.1 = x.1 ∨ ∃ y ∈ l, z.1 = y.1
  | [], x, z, h => by simp [ins] at h; exact .inl (by rw [h])
  | y :: l, x, z, h => by
    rw [ins] at h
    split at h
    · rcases List.mem_cons.1 h with rfl | h
      · exact .inr ⟨z, by simp, rfl⟩
      · rcases ins_key l x z h with e | ⟨u, hu, e⟩
        · exact .inl e
        · exact .inr ⟨u, by simp [hu], e⟩
    · split at h
      · rcases List.mem_cons.1 h with rfl | h
        · exact .inr ⟨y, by simp, rfl⟩
        · exact .inr ⟨z, by simp [h], rfl⟩
      · rcases List.mem_cons.1 h with rfl | h
        · exact .inl rfl
        · exact .inr ⟨z, h, rfl⟩
theorem ins_ris : ∀ (l : List CE) (x : CE), Ris l → Ris (ins l x)
  | [], x, _ => by simp [ins, Ris]
  | y :: l, x, h => by
    obtain ⟨h1, h2⟩ := List.pairwise_cons.1 h
    rw [ins]
    split
    · rename_i c
      refine List.pairwise_cons.2 ⟨fun z hz => ?_, ins_ris l x h2⟩
      rcases ins_key l x z hz with e | ⟨u, hu, e⟩
      · rw [e]; exact c
      · rw [e]; exact h1 u hu
    · rename_i c
      split
      · exact List.pairwise_cons.2 ⟨fun z hz => h1 z hz, h2⟩
      · rename_i c2
        have hx : cmpL x.1 y.1 < 0 := by have := cmpL_swap x.1 y.1; omega
        refine List.pairwise_cons.2 ⟨fun z hz => ?_, h⟩
        rcases List.mem_cons.1 hz with rfl | hz
        · exact hx
        · exact cmpL_trans hx (h1 z hz)
theorem key_ne {l : List CE} {y : CE} (h : ∀ z ∈ l, cmpL y.1 z.1 < 0) {g : List Int} {n : Int} (hg : (g, n) ∈ l) : y.1 ≠ g := fun e => by
  have := h _ hg
  rw [e] at this
  simp only [cmpL_self] at this
  omega
theorem ins_mem : ∀ (l : List CE) (x : CE), Ris l → ∀ (g : List Int) (n : Int), (g, n) ∈ ins l x ↔ (g ≠ x.1 ∧ (g, n) ∈ l) ∨ (g = x.1 ∧ ((∃ m, (g, m) ∈ l ∧ n = add64 m x.2) ∨ ((∀ m, (g, m) ∉ l) ∧ n = x.2)))
  | [], x, _, g, n => by
    simp only [ins, List.mem_singleton, List.not_mem_nil, and_false, false_or, false_and, exists_false, not_false_eq_true, implies_true, true_and]
    constructor
    · intro h; exact ⟨by rw [← h], by rw [← h]⟩
    · rintro ⟨rfl, rfl⟩; rfl
  | y :: l, x, h, g, n => by
    obtain ⟨h1, h2⟩ := List.pairwise_cons.1 h
    have hk := fun (k : List Int) (m : Int) (hm : (k, m) ∈ l) => key_ne h1 hm
    rw [ins]
    by_cases c1 : cmpL y.1 x.1 < 0
    · have hyx : y.1 ≠ x.1 := fun e => by rw [e, cmpL_self] at c1; omega
      have hny : ∀ m, (x.1, m) ≠ y := fun m e => hyx (by rw [← e])
      rw [if_pos c1, List.mem_cons, ins_mem l x h2 g n]
      constructor
      · rintro (e | ⟨a, b⟩ | ⟨rfl, b⟩)
        · exact .inl ⟨by rw [show g = y.1 by rw [← e]]; exact hyx, by rw [e]; simp⟩
        · exact .inl ⟨a, by simp [b]⟩
        · refine .inr ⟨rfl, b.imp ?_ ?_⟩
          · rintro ⟨m, hm, e⟩; exact ⟨m, by simp [hm], e⟩
          · rintro ⟨hm, e⟩
            refine ⟨fun m hc => ?_, e⟩
            rcases List.mem_cons.1 hc with e' | e'
            · exact hny m e'
            · exact hm m e'
      · rintro (⟨a, b⟩ | ⟨rfl, b⟩)
        · rcases List.mem_cons.1 b with e | e
          · exact .inl e
          · exact .inr (.inl ⟨a, e⟩)
        · refine .inr (.inr ⟨rfl, b.imp ?_ ?_⟩)
          · rintro ⟨m, hm, e⟩
            rcases List.mem_cons.1 hm with e' | e'
            · exact absurd e' (hny m)
            · exact ⟨m, e', e⟩
          · rintro ⟨hm, e⟩
            exact ⟨fun m hc => hm m (by simp [hc]), e⟩
    · rw [if_neg c1]
      by_cases c2 : cmpL y.1 x.1 = 0
      · have hyx := (cmpL_zero _ _).1 c2
        rw [if_pos c2, List.mem_cons]
        constructor
        · rintro (e | e)
          · have e1 : g = y.1 := by rw [Prod.ext_iff] at e; exact e.1
            have e2 : n = add64 y.2 x.2 := by rw [Prod.ext_iff] at e; exact e.2
            exact .inr ⟨by rw [e1, hyx], .inl ⟨y.2, by rw [e1]; simp, e2⟩⟩
          · exact .inl ⟨fun e' => hk g n e (by rw [hyx, e']), by simp [e]⟩
        · rintro (⟨a, b⟩ | ⟨rfl, ⟨m, hm, e⟩ | ⟨hm, e⟩⟩)
          · rcases List.mem_cons.1 b with e | e
            · exact absurd (by rw [← hyx, ← e]) a
            · exact .inr e
          · rcases List.mem_cons.1 hm with e' | e'
            · left
              rw [e, hyx, ← e']
            · exact absurd hyx (hk _ _ e')
          · exact absurd (by rw [← hyx]; simp) (hm y.2)
      · have hxy : cmpL x.1 y.1 < 0 := by have := cmpL_swap x.1 y.1; omega
        have hno : ∀ m, (x.1, m) ∉ y :: l := fun m hc => by
          rcases List.mem_cons.1 hc with e | e
          · rw [← e] at hxy; simp only [cmpL_self] at hxy; omega
          · exact key_ne (y := (x.1, 0)) (l := l) (fun z hz => cmpL_trans hxy (h1 z hz)) e rfl
        rw [if_neg c2, List.mem_cons]
        constructor
        · rintro (e | e)
          · have e1 : g = x.1 := by rw [Prod.ext_iff] at e; exact e.1
            have e2 : n = x.2 := by rw [Prod.ext_iff] at e; exact e.2
            exact .inr ⟨e1, .inr ⟨by rw [e1]; exact hno, e2⟩⟩
          · exact .inl ⟨fun e' => hno n (by rw [← e']; exact e), e⟩
        · rintro (⟨_, b⟩ | ⟨rfl, ⟨m, hm, _⟩ | ⟨_, e⟩⟩)
          · exact .inr b
          · exact absurd hm (hno m)
          · exact .inl (by rw [e])
theorem ris_ext : ∀ (l m : List CE), Ris l → Ris m → (∀ z, z ∈ l ↔ z ∈ m) → l = m
  | [], [], _, _, _ => rfl
  | [], y :: m, _, _, h => absurd ((h y).2 (by simp)) (by simp)
  | x :: l, [], _, _, h => absurd ((h x).1 (by simp)) (by simp)
  | x :: l, y :: m, hl, hm, h => by
    obtain ⟨l1, l2⟩ := List.pairwise_cons.1 hl
    obtain ⟨m1, m2⟩ := List.pairwise_cons.1 hm
    have hxy : x = y := by
      rcases List.mem_cons.1 ((h x).1 (by simp)) with e | e
      · exact e
      · rcases List.mem_cons.1 ((h y).2 (by simp)) with e' | e'
        · exact e'.symm
        · have a := m1 x e
          have b := l1 y e'
          have := cmpL_swap x.1 y.1
          omega
    subst hxy
    refine congrArg (x :: ·) (ris_ext l m l2 m2 fun z => ?_)
    have hz := h z
    simp only [List.mem_cons] at hz
    constructor
    · intro k
      rcases hz.1 (.inr k) with e | e
      · have := l1 z k; rw [e, cmpL_self] at this; omega
      · exact e
    · intro k
      rcases hz.2 (.inr k) with e | e
      · have := m1 z k; rw [e, cmpL_self] at this; omega
      · exact e

/-- All numbers of an n-gram together. -/
def smo (l : List CE) (g : List Int) : Int := (l.map fun x => if x.1 = g then x.2 else 0).sum
theorem smo_snoc (l : List CE) (x : CE) (g : List Int) : smo (l ++ [x]) g = smo l g + if x.1 = g then x.2 else 0 := by simp [smo]
theorem smo_none (l : List CE) (g : List Int) (h : ∀ m, (g, m) ∉ l) : smo l g = 0 := by
  induction l with
  | nil => rfl
  | cons y l ih =>
    have h1 : y.1 ≠ g := fun e => h y.2 (by rw [← e]; simp)
    have := ih fun m hm => h m (by simp [hm])
    simp only [smo, List.map_cons, List.sum_cons, if_neg h1] at this ⊢
    omega
theorem smo_perm {l d : List CE} (h : l.Perm d) (g : List Int) : smo l g = smo d g := by
  induction h with
  | nil => rfl
  | cons x _ ih => simp only [smo, List.map_cons, List.sum_cons] at ih ⊢; omega
  | swap x y l => simp only [smo, List.map_cons, List.sum_cons]; omega
  | trans _ _ a b => exact a.trans b
/-- The list R is what the list l comes to. -/
def Okk (l R : List CE) : Prop := Ris R ∧ ∀ g n, (g, n) ∈ R ↔ (∃ m, (g, m) ∈ l) ∧ n = IntKind.i64.wrap (smo l g)
theorem Okk.ins {l R : List CE} (h : Okk l R) {x : CE} (hx : Fit x.2) : Okk (l ++ [x]) (ins R x) := by
  refine ⟨ins_ris R x h.1, fun g n => ?_⟩
  rw [ins_mem R x h.1 g n, smo_snoc]
  by_cases e : g = x.1
  · subst e
    rw [if_pos rfl]
    by_cases hh : ∃ m, (x.1, m) ∈ l
    · have hm := (h.2 x.1 (IntKind.i64.wrap (smo l x.1))).2 ⟨hh, rfl⟩
      rw [← add_wrap]
      constructor
      · rintro (⟨a, _⟩ | ⟨_, ⟨m, a, b⟩ | ⟨a, _⟩⟩)
        · exact absurd rfl a
        · refine ⟨⟨x.2, by simp⟩, ?_⟩
          rw [b, ((h.2 x.1 m).1 a).2]
        · exact absurd hm (a _)
      · rintro ⟨_, b⟩
        exact .inr ⟨rfl, .inl ⟨_, hm, b⟩⟩
    · have hno : ∀ m, (x.1, m) ∉ R := fun m hm => hh ((h.2 x.1 m).1 hm).1
      rw [smo_none l x.1 fun m hm => hh ⟨m, hm⟩, Int.zero_add, hx]
      constructor
      · rintro (⟨a, _⟩ | ⟨_, ⟨m, a, _⟩ | ⟨_, b⟩⟩)
        · exact absurd rfl a
        · exact absurd a (hno m)
        · exact ⟨⟨x.2, by simp⟩, b⟩
      · rintro ⟨_, b⟩
        exact .inr ⟨rfl, .inr ⟨hno, b⟩⟩
  · rw [if_neg fun e' => e e'.symm, Int.add_zero, h.2 g n]
    have : (∃ m, (g, m) ∈ l ++ [x]) ↔ ∃ m, (g, m) ∈ l := by
      constructor
      · rintro ⟨m, hm⟩
        rcases List.mem_append.1 hm with k | k
        · exact ⟨m, k⟩
        · simp at k; exact absurd (by rw [← k]) e
      · rintro ⟨m, hm⟩; exact ⟨m, by simp [hm]⟩
    rw [this]
    constructor
    · rintro (⟨_, a⟩ | ⟨a, _⟩)
      · exact a
      · exact absurd a e
    · intro a; exact .inl ⟨e, a⟩
/-- The sums of a list. -/
def sumI (l : List CE) : List CE := l.foldl ins []
theorem sumI_snoc (l : List CE) (x : CE) : sumI (l ++ [x]) = ins (sumI l) x := by simp [sumI]
theorem sumI_ris (l : List CE) : Ris (sumI l) := by
  suffices h : ∀ (l R : List CE), Ris R → Ris (l.foldl ins R) from h l [] List.Pairwise.nil
  intro l
  induction l with
  | nil => intro R h; exact h
  | cons x l ih => intro R h; exact ih _ (ins_ris R x h)
theorem sumI_take (l : List CE) {k : Nat} (h : k < l.length) : sumI (l.take (k + 1)) = ins (sumI (l.take k)) l[k] := by
  rw [List.take_succ_eq_append_getElem h, sumI_snoc]
theorem sumI_okk (l : List CE) (h : ∀ x ∈ l, Fit x.2) : Okk l (sumI l) := by
  suffices hk : ∀ k, k ≤ l.length → Okk (l.take k) (sumI (l.take k)) by have := hk l.length (Nat.le_refl _); rwa [List.take_length] at this
  intro k
  induction k with
  | zero => intro _; exact ⟨List.Pairwise.nil, fun g n => by simp [sumI]⟩
  | succ k ih =>
    intro hk
    rw [sumI_take l (by omega), List.take_succ_eq_append_getElem (by omega)]
    exact (ih (by omega)).ins (h _ (List.getElem_mem _))
theorem sumI_perm {l d : List CE} (h : l.Perm d) (hf : ∀ x ∈ l, Fit x.2) : sumI l = sumI d := by
  have a := sumI_okk l hf
  have b := sumI_okk d fun x hx => hf x (h.mem_iff.2 hx)
  refine ris_ext _ _ a.1 b.1 fun ⟨g, n⟩ => ?_
  rw [a.2 g n, b.2 g n, smo_perm h]
  have : (∃ m, (g, m) ∈ l) ↔ ∃ m, (g, m) ∈ d := ⟨fun ⟨m, hm⟩ => ⟨m, h.mem_iff.1 hm⟩, fun ⟨m, hm⟩ => ⟨m, h.mem_iff.2 hm⟩⟩
  rw [this]
theorem sumI_fit (l : List CE) (hf : ∀ x ∈ l, Fit x.2) : ∀ x ∈ sumI l, Fit x.2 := fun x hx => by
  have := ((sumI_okk l hf).2 x.1 x.2).1 hx
  rw [this.2]
  unfold Fit
  simp only [wrap_i64]
  omega
/-- An n-gram behind all others. -/
theorem ins_last : ∀ (l : List CE) (x : CE), (∀ y ∈ l, cmpL y.1 x.1 < 0) → ins l x = l ++ [x]
  | [], _, _ => rfl
  | y :: l, x, h => by rw [ins, if_pos (h y (by simp)), ins_last l x fun z hz => h z (by simp [hz])]; rfl
theorem ins_met (l : List CE) (y x : CE) (h : ∀ z ∈ l, cmpL z.1 y.1 < 0) (hx : cmpL y.1 x.1 = 0) : ins (l ++ [y]) x = l ++ [(y.1, add64 y.2 x.2)] := by
  induction l with
  | nil => simp [ins, hx]
  | cons z l ih =>
    have hz := h z (by simp)
    rw [List.cons_append, ins, if_pos (by rw [← (cmpL_zero _ _).1 hx]; exact hz), ih fun u hu => h u (by simp [hu])]
    rfl
/-- A sum's sum is itself. -/
theorem sumI_self (l : List CE) (h : Ris l) : sumI l = l := by
  suffices hk : ∀ k, k ≤ l.length → sumI (l.take k) = l.take k by have := hk l.length (Nat.le_refl _); rwa [List.take_length] at this
  intro k
  induction k with
  | zero => intro _; rfl
  | succ k ih =>
    intro hk
    rw [sumI_take l (by omega), ih (by omega), List.take_succ_eq_append_getElem (by omega), ins_last]
    intro y hy
    obtain ⟨i, hi, rfl⟩ := List.getElem_of_mem hy
    rw [List.getElem_take]
    simp at hi
    exact (List.pairwise_iff_getElem.1 h) i k (by omega) (by omega) (by omega)

/-- One of the list. -/
abbrev ce (l : List CE) (i : Nat) : CE := l.getD i ([], 0)
/-- Does each stand ahead of the next one? -/
def risB (l : List CE) : Bool := decide (∀ i, i < l.length - 1 → cmpL (ce l i).1 (ce l (i + 1)).1 < 0)
theorem ce_get (l : List CE) {i : Nat} (h : i < l.length) : ce l i = l[i] := by simp [ce, List.getD, h]
theorem Ris.at {l : List CE} (h : Ris l) {i j : Nat} (hij : i < j) (hj : j < l.length) : cmpL (ce l i).1 (ce l j).1 < 0 := by
  rw [ce_get l (by omega), ce_get l hj]
  exact (List.pairwise_iff_getElem.1 h) i j (by omega) hj hij
theorem Ris.b {l : List CE} (h : Ris l) : risB l = true := decide_eq_true fun i hi => h.at (by omega) (by omega)
/-- The place of an n-gram. -/
def fnd : List CE → List Int → Int
  | [], _ => -1
  | x :: l, g => if x.1 = g then 0 else if fnd l g < 0 then -1 else fnd l g + 1
theorem fnd_none : ∀ (l : List CE) (g : List Int), (∀ i, i < l.length → (ce l i).1 ≠ g) → fnd l g = -1
  | [], _, _ => rfl
  | x :: l, g, h => by
    rw [fnd, if_neg (show x.1 ≠ g from h 0 (by simp)), fnd_none l g fun i hi => h (i + 1) (by simp; omega)]
    rfl
theorem fnd_some : ∀ (l : List CE) (g : List Int) (i : Nat), i < l.length → (∀ j, j < i → (ce l j).1 ≠ g) → (ce l i).1 = g → fnd l g = i
  | [], _, _, h, _, _ => by simp at h
  | x :: l, g, 0, _, _, h => by rw [fnd, if_pos (by simpa using h)]; rfl
  | x :: l, g, i + 1, hi, hj, h => by
    have := fnd_some l g i (by simpa using hi) (fun j hj' => hj (j + 1) (by omega)) h
    rw [fnd, if_neg (show x.1 ≠ g from hj 0 (by omega)), this, if_neg (by omega)]
    omega
/-- What a search in a list that rises has found. -/
theorem fnd_cut {l : List CE} (h : Ris l) {g : List Int} {i : Nat} (hi : i ≤ l.length) (h1 : ∀ k, k < i → cmpL (ce l k).1 g < 0) (h2 : ∀ k, i ≤ k → k < l.length → 0 ≤ cmpL (ce l k).1 g) :
    fnd l g = if i < l.length ∧ cmpL (ce l i).1 g = 0 then (i : Int) else -1 := by
  have hne : ∀ k, k < i → (ce l k).1 ≠ g := fun k hk e => by have := h1 k hk; rw [e, cmpL_self] at this; omega
  by_cases c : i < l.length ∧ cmpL (ce l i).1 g = 0
  · rw [if_pos c]
    exact fnd_some l g i c.1 hne ((cmpL_zero _ _).1 c.2)
  · rw [if_neg c]
    refine fnd_none l g fun k hk e => ?_
    by_cases hki : k < i
    · exact hne k hki e
    · by_cases hk2 : k = i
      · subst hk2
        exact c ⟨hk, by rw [e, cmpL_self]⟩
      · have a := h.at (i := i) (j := k) (by omega) hk
        rw [e] at a
        have := h2 i (Nat.le_refl _) (by omega)
        omega
end Go.Proofs.Yteiegedffjkbeaa
