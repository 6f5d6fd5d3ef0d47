/-
  Vocabularies, plainly: which lists are one, words of a text in the order in which they come, words by numbers.
-/
import Derived.Test.YtbpegpgbdemomaaInMath
import Derived.Lib.Join
namespace Go.Proofs.Ytbpegpgbdemomaa
open Go.RowKit

/-- The first three words. -/
def mk3 : List (List UInt8) := [unkW, mkB, mkE]
theorem mk3_nodup : mk3.Nodup := by decide
theorem unk_ne : unkW ≠ [] := by decide
theorem mk3_ne : ∀ x ∈ mk3, x ≠ [] := by decide
theorem mk3_len : ∀ x ∈ mk3, x.length ≤ 255 := by decide

/-- May the word i of a list stand there? -/
def goodB (l : List (List UInt8)) (i : Nat) : Bool := decide (i < 3) || (rightW (l.getD i []) && decide (l.getD i [] ∉ l.take i))
/-- Why a list is no vocabulary, or 0. -/
def wrV (l : List (List UInt8)) : Nat := if l.length < 3 ∨ l.take 3 ≠ mk3 then 1 else if (List.range l.length).all (goodB l) = true then 0 else 10
theorem wr_short {l : List (List UInt8)} (h : l.length < 3) : wrV l = 1 := if_pos (.inl h)
theorem wr_head {l : List (List UInt8)} (h : l.take 3 ≠ mk3) : wrV l = 1 := if_pos (.inr h)
theorem wr_bad {l : List (List UInt8)} (h3 : l.take 3 = mk3) {i : Nat} (hi : i < l.length) (hb : goodB l i = false) : wrV l = 10 := by
  have hl : ¬ l.length < 3 := fun hlt => by
    have := congrArg List.length h3
    rw [List.length_take] at this
    simp [mk3] at this
    omega
  unfold wrV
  rw [if_neg (fun h => h.elim hl fun hn => hn h3), if_neg]
  intro ha
  have := List.all_eq_true.1 ha i (List.mem_range.2 hi)
  rw [hb] at this
  cases this
theorem wr_ok {l : List (List UInt8)} (h3 : l.take 3 = mk3) (h : ∀ i, i < l.length → goodB l i = true) : wrV l = 0 := by
  have hl : ¬ l.length < 3 := fun hlt => by
    have := congrArg List.length h3
    rw [List.length_take] at this
    simp [mk3] at this
    omega
  unfold wrV
  rw [if_neg (fun h => h.elim hl fun hn => hn h3), if_pos]
  exact List.all_eq_true.2 fun i hi => h i (List.mem_range.1 hi)
theorem wr_three {l : List (List UInt8)} (h : wrV l = 0) : 3 ≤ l.length ∧ l.take 3 = mk3 ∧ ∀ i, i < l.length → goodB l i = true := by
  unfold wrV at h
  by_cases h1 : l.length < 3 ∨ l.take 3 ≠ mk3
  · rw [if_pos h1] at h; cases h
  · rw [if_neg h1] at h
    by_cases h2 : (List.range l.length).all (goodB l) = true
    · refine ⟨Nat.not_lt.1 fun hh => h1 (.inl hh), Classical.byContradiction fun hh => h1 (.inr hh), fun i hi => ?_⟩
      exact List.all_eq_true.1 h2 i (List.mem_range.2 hi)
    · rw [if_neg h2] at h; cases h
theorem good_small {l : List (List UInt8)} {i : Nat} (h : i < 3) : goodB l i = true := by unfold goodB; rw [decide_eq_true h]; rfl
theorem good_new {l : List (List UInt8)} {i : Nat} (h : 3 ≤ i) : goodB l i = (rightW (l.getD i []) && decide (l.getD i [] ∉ l.take i)) := by
  unfold goodB; rw [decide_eq_false (by omega)]; rfl
theorem take_next {l : List (List UInt8)} {i : Nat} (h : i < l.length) : l.take (i + 1) = l.take i ++ [l.getD i []] := by
  rw [List.take_succ_eq_append_getElem h, show l.getD i [] = l[i]'h by simp [List.getD, List.getElem?_eq_getElem h]]
theorem put_next {l : List (List UInt8)} {i : Nat} (h : i < l.length) (hn : l.getD i [] ∉ l.take i) : putN (l.take i) (l.getD i []) = l.take (i + 1) := by
  rw [putN_new hn, take_next h]
/-- No word of a vocabulary is empty, none is longer than 255 bytes. -/
theorem wr_words {l : List (List UInt8)} (h : wrV l = 0) : ∀ i, i < l.length → l.getD i [] ≠ [] ∧ (l.getD i []).length ≤ 255 := by
  obtain ⟨h0, h3, hg⟩ := wr_three h
  intro i hi
  by_cases hi3 : i < 3
  · have hm : l.getD i [] ∈ mk3 := by
      rw [← h3]
      have : (l.take 3).getD i [] ∈ l.take 3 := getD_mem (by rw [List.length_take]; omega)
      rw [List.getD_eq_getElem?_getD, List.getElem?_take, if_pos hi3, ← List.getD_eq_getElem?_getD] at this
      exact this
    exact ⟨mk3_ne _ hm, mk3_len _ hm⟩
  · have := hg i hi
    rw [good_new (by omega), Bool.and_eq_true] at this
    have h1 := right_parts this.1
    exact ⟨h1.1, h1.2.2.2⟩

/-- The words of lines, one line behind the other. -/
def lw (L : List (List UInt8)) : List (List UInt8) := (L.map wordsOf).flatten
theorem lw_snoc (L : List (List UInt8)) (x : List UInt8) : lw (L ++ [x]) = lw L ++ wordsOf x := by simp [lw]
theorem snt_flat : ∀ L : List (List UInt8), (snt L).flatten = lw L
  | [] => rfl
  | x :: L => by
    have ih := snt_flat L
    by_cases h : wordsOf x = []
    · have : snt (x :: L) = snt L := by rw [snt, if_pos h]
      rw [this, ih]; simp [lw, h]
    · have : snt (x :: L) = wordsOf x :: snt L := by rw [snt, if_neg h]
      rw [this, List.flatten_cons, ih]; simp [lw]
/-- The words of a text, in the order in which they come, behind the first three. -/
def lrn (t : List UInt8) : List (List UInt8) := putAll mk3 (lw (lns [] t))
theorem putAll_app (ts a b : List (List UInt8)) : putAll ts (a ++ b) = putAll (putAll ts a) b := by simp [putAll]
theorem putAll_ge (l : List (List UInt8)) : ∀ ts : List (List UInt8), ts.length ≤ (putAll ts l).length := by
  induction l with
  | nil => intro ts; exact Nat.le_refl _
  | cons s l ih => intro ts; have h1 := ih (putN ts s); have h2 := (putN_len ts s).2; simp [putAll] at h1 ⊢; omega
theorem putAll_in (l : List (List UInt8)) : ∀ ts : List (List UInt8), ∀ x ∈ putAll ts l, x ∈ ts ∨ x ∈ l := by
  induction l with
  | nil => intro ts x h; exact .inl h
  | cons s l ih =>
    intro ts x h
    rcases ih (putN ts s) x h with h1 | h1
    · by_cases hm : s ∈ ts
      · rw [putN_in hm] at h1; exact .inl h1
      · rw [putN_new hm] at h1
        rcases List.mem_append.1 h1 with h2 | h2
        · exact .inl h2
        · exact .inr (by simp at h2; simp [h2])
    · exact .inr (List.mem_cons_of_mem _ h1)
theorem lw_len : ∀ L : List (List UInt8), (lw L).length ≤ (L.map List.length).sum
  | [] => by simp [lw]
  | x :: L => by
    have ih := lw_len L
    have h1 := wds_len (pcs [] x)
    have h2 := pcs_len x []
    simp [lw, wordsOf] at ih h1 h2 ⊢
    omega
theorem lns_sum : ∀ (t cur : List UInt8), ((lns cur t).map List.length).sum ≤ cur.length + t.length
  | [], cur => by simp [lns]
  | c :: t, cur => by
    rw [lns]
    split
    · have := lns_sum t []
      simp at this ⊢; omega
    · have := lns_sum t (cur ++ [c])
      simp at this ⊢; omega
theorem lrn_len (t : List UInt8) : 3 ≤ (lrn t).length ∧ (lrn t).length ≤ t.length + 3 := by
  have h1 := putAll_ge (lw (lns [] t)) mk3
  have h2 := putAll_len (lw (lns [] t)) mk3
  have h3 := lw_len (lns [] t)
  have h4 := lns_sum t []
  unfold lrn
  simp [mk3] at h1 h2 h4 ⊢
  omega
theorem all_flat (t : List UInt8) : putAll mk3 (allS t).flatten = lrn t := by unfold lrn allS; rw [snt_flat]
theorem words_ok (x : List UInt8) : ∀ y ∈ wordsOf x, y.length ≤ 255 := by
  intro y hy
  unfold wordsOf at hy
  have : ∀ ps : List (List UInt8), ∀ y ∈ wds ps, y.length ≤ 255 := fun ps => by
    induction ps with
    | nil => intro y h; cases h
    | cons p ps ih =>
      intro y h
      rw [wds] at h
      split at h
      · exact ih y h
      · rcases List.mem_cons.1 h with rfl | h
        · unfold wd1
          split
          · decide
          · omega
        · exact ih y h
  exact this _ y hy

/-- A word's number, or 0. -/
def idI (ts : List (List UInt8)) (s : List UInt8) : Int := if fnd ts s < 0 then 0 else fnd ts s
theorem idI_nil (s : List UInt8) : idI [] s = 0 := by unfold idI; rw [fnd_none (by simp)]; rfl
theorem fnd_nil (s : List UInt8) : fnd [] s = -1 := fnd_none (by simp)
theorem idI_le {ts : List (List UInt8)} {s : List UInt8} : 0 ≤ idI ts s ∧ idI ts s ≤ ts.length := by
  have := @fnd_lt ts s
  unfold idI; split <;> omega
/-- The word of a number, or nothing. -/
def wdI (ts : List (List UInt8)) (i : Int) : List UInt8 := if 0 ≤ i ∧ i < ts.length then ts.getD i.toNat [] else []
/-- The word of a number, or <unk>. -/
def lnI (ts : List (List UInt8)) (i : Int) : List UInt8 := if 0 ≤ i ∧ i < ts.length then ts.getD i.toNat [] else unkW
theorem lnI_of {ts : List (List UInt8)} (h : ∀ i, i < ts.length → ts.getD i [] ≠ []) (i : Int) : lnI ts i = if wdI ts i = [] then unkW else wdI ts i := by
  unfold lnI wdI
  by_cases hi : 0 ≤ i ∧ i < ts.length
  · rw [if_pos hi, if_pos hi, if_neg (h _ (by omega))]
  · rw [if_neg hi, if_neg hi, if_pos rfl]
theorem lnI_len {ts : List (List UInt8)} (h : ∀ i, i < ts.length → (ts.getD i []).length ≤ 255) (i : Int) : (lnI ts i).length ≤ 255 := by
  unfold lnI
  split
  · exact h _ (by omega)
  · decide
/-- Words with blanks between them, as the library joins them. -/
theorem jn_join (f : Nat → List UInt8) : ∀ k, jn f k = Lib.join ((List.range k).map f) [32]
  | 0 => rfl
  | k + 1 => by
    have ih := jn_join f k
    rw [jn, ih, List.range_succ, List.map_append, List.map_singleton]
    by_cases hk : 0 < k
    · rw [if_pos hk]
      obtain ⟨y, r, hr⟩ : ∃ y r, (List.range k).map f = y :: r := by
        cases h : (List.range k).map f with
        | nil => have := congrArg List.length h; simp at this; omega
        | cons y r => exact ⟨y, r, rfl⟩
      rw [hr, List.cons_append, Lib.join_cons, Lib.join_cons]
      simp [Lib.joinTail]
    · obtain rfl : k = 0 := by omega
      simp [Lib.join_one, Lib.join_nil]
end Go.Proofs.Ytbpegpgbdemomaa
