/-
  Texts cut into lines, pieces, words, sentences, plainly.
-/
import Derived.Test.YteiegedffjkbeaaWireMath
import Derived.Lib.Strings
namespace Go.Proofs.Yteiegedffjkbeaa
open Go.RowKit

/-- Is a byte a blank? -/
def blkN (c : Nat) : Bool := decide (c = 9) || (decide (c = 11) || (decide (c = 12) || (decide (c = 13) || decide (c = 32))))
def blk (b : UInt8) : Bool := blkN b.toNat
/-- The bytes from a on, below b. -/
def cutL (l : List UInt8) (a b : Nat) : List UInt8 := (l.take b).drop a
theorem cutL_len (l : List UInt8) {a b : Nat} (h : a ≤ b) (hb : b ≤ l.length) : (cutL l a b).length = b - a := by simp [cutL]; omega
theorem cutL_nil (l : List UInt8) {a b : Nat} (h : b ≤ a) : cutL l a b = [] := by simp [cutL]; omega
theorem cutL_ne (l : List UInt8) {a b : Nat} (h : a < b) (hb : b ≤ l.length) : cutL l a b ≠ [] := fun e => by
  have := congrArg List.length e
  rw [cutL_len l (by omega) hb] at this
  simp at this; omega
theorem bt_get (l : List UInt8) {i : Nat} (h : i < l.length) : bt l i = (l[i]'h).toNat := by unfold bt; rw [List.getElem?_eq_getElem h]; rfl
theorem cutL_snoc (l : List UInt8) {a i : Nat} (h : a ≤ i) (hi : i < l.length) : cutL l a (i + 1) = cutL l a i ++ [l[i]'hi] := by
  unfold cutL
  rw [List.take_succ_eq_append_getElem hi, List.drop_append_of_le_length (by simp; omega)]

/-- The pieces, cur being what stands ahead without a blank. -/
def pcs : List UInt8 → List UInt8 → List (List UInt8)
  | cur, [] => if cur = [] then [] else [cur]
  | cur, c :: t => if blk c then (if cur = [] then pcs [] t else cur :: pcs [] t) else pcs (cur ++ [c]) t
/-- The pieces from s on, at i. -/
def pcA (l : List UInt8) (s i : Nat) : List (List UInt8) := pcs (cutL l s i) (l.drop i)
theorem pcA_zero (l : List UInt8) : pcA l 0 0 = pcs [] l := by simp [pcA, cutL]
theorem pcA_go {l : List UInt8} {s i : Nat} (hs : s ≤ i) (hi : i < l.length) (hb : blkN (bt l i) = false) : pcA l s i = pcA l s (i + 1) := by
  rw [bt_get l hi] at hb
  unfold pcA
  rw [List.drop_eq_getElem_cons hi, pcs, show blk (l[i]'hi) = false from hb, cutL_snoc l hs hi]
  simp
theorem pcA_cut {l : List UInt8} {s i : Nat} (hs : s < i) (hi : i < l.length) (hb : blkN (bt l i) = true) : pcA l s i = cutL l s i :: pcA l (i + 1) (i + 1) := by
  rw [bt_get l hi] at hb
  unfold pcA
  rw [List.drop_eq_getElem_cons hi, pcs, show blk (l[i]'hi) = true from hb, if_pos rfl, if_neg (cutL_ne l hs (by omega)), cutL_nil l (Nat.le_refl _)]
theorem pcA_skip {l : List UInt8} {i : Nat} (hi : i < l.length) (hb : blkN (bt l i) = true) : pcA l i i = pcA l (i + 1) (i + 1) := by
  rw [bt_get l hi] at hb
  unfold pcA
  rw [List.drop_eq_getElem_cons hi, pcs, show blk (l[i]'hi) = true from hb, if_pos rfl, if_pos (cutL_nil l (Nat.le_refl _)), cutL_nil l (Nat.le_refl _)]
theorem pcA_last {l : List UInt8} {s : Nat} (hs : s < l.length) : pcA l s l.length = [cutL l s l.length] := by
  unfold pcA
  rw [List.drop_length, pcs, if_neg (cutL_ne l hs (Nat.le_refl _))]
theorem pcA_none (l : List UInt8) : pcA l l.length l.length = [] := by
  unfold pcA
  rw [List.drop_length, pcs, if_pos (cutL_nil l (Nat.le_refl _))]
/-- A run without blanks. -/
theorem pcA_run {l : List UInt8} {i : Nat} : ∀ n : Nat, i + n ≤ l.length → (∀ j, j < n → blkN (bt l (i + j)) = false) → pcA l i i = pcA l i (i + n)
  | 0, _, _ => rfl
  | n + 1, h, hb => by
    rw [pcA_run n (by omega) fun j hj => hb j (by omega), ← Nat.add_assoc]
    exact pcA_go (by omega) (by omega) (hb n (by omega))
theorem pcA_word {l : List UInt8} {i n : Nat} (h0 : 0 < n) (h : i + n ≤ l.length) (hb : ∀ j, j < n → blkN (bt l (i + j)) = false) (he : i + n = l.length ∨ (i + n < l.length ∧ blkN (bt l (i + n)) = true)) :
    pcA l i i = cutL l i (i + n) :: pcA l (i + n) (i + n) := by
  rw [pcA_run n h hb]
  rcases he with he | ⟨he, h1⟩
  · rw [he, pcA_last (by omega), pcA_none]
  · rw [pcA_cut (by omega) he h1, pcA_skip he h1]

def mkB : List UInt8 := [60, 115, 62]
def mkE : List UInt8 := [60, 47, 115, 62]
def unkW : List UInt8 := [60, 117, 110, 107, 62]
def isMark (p : List UInt8) : Bool := decide (p = mkB) || decide (p = mkE)
/-- The word that a piece is. -/
def wd1 (p : List UInt8) : List UInt8 := if 255 < p.length then unkW else p
theorem wd1_mark {p : List UInt8} : isMark (wd1 p) = isMark p := by
  unfold wd1
  split
  · next h =>
    have h1 : p ≠ mkB := fun e => by rw [e] at h; simp [mkB] at h
    have h2 : p ≠ mkE := fun e => by rw [e] at h; simp [mkE] at h
    rw [show isMark unkW = false by decide]
    unfold isMark
    rw [decide_eq_false h1, decide_eq_false h2]; rfl
  · rfl
def wds : List (List UInt8) → List (List UInt8)
  | [] => []
  | p :: ps => if isMark p then wds ps else wd1 p :: wds ps
theorem wds_append (a b : List (List UInt8)) : wds (a ++ b) = wds a ++ wds b := by
  induction a with
  | nil => rfl
  | cons p a ih => rw [List.cons_append, wds, wds, ih]; split <;> rfl
theorem wds_mark (a : List (List UInt8)) {p : List UInt8} (h : isMark p = true) : wds (a ++ [p]) = wds a := by rw [wds_append, wds, if_pos h, wds, List.append_nil]
theorem wds_word (a : List (List UInt8)) {p : List UInt8} (h : isMark p = false) : wds (a ++ [p]) = wds a ++ [wd1 p] := by rw [wds_append, wds, if_neg (by rw [h]; decide), wds]
theorem wds_len (a : List (List UInt8)) : (wds a).length ≤ a.length := by
  induction a with
  | nil => exact Nat.le_refl _
  | cons p a ih => rw [wds]; split <;> simp <;> omega
/-- The words of a line. -/
def wordsOf (l : List UInt8) : List (List UInt8) := wds (pcs [] l)
theorem pcs_len : ∀ (t cur : List UInt8), (pcs cur t).length ≤ cur.length + t.length
  | [], cur => by
    rw [pcs]
    cases cur <;> simp
  | c :: t, cur => by
    rw [pcs]
    have h1 := pcs_len t []
    have h2 := pcs_len t (cur ++ [c])
    simp at h1 h2
    split
    · cases cur <;> simp <;> omega
    · simp; omega
theorem pcs_in : ∀ (t cur : List UInt8), (∀ c ∈ cur, blk c = false) → ∀ p ∈ pcs cur t, p ≠ [] ∧ ∀ c ∈ p, blk c = false ∧ (c ∈ cur ∨ c ∈ t)
  | [], cur, h, p, hp => by
    rw [pcs] at hp
    split at hp
    · cases hp
    · next hn =>
      have : p = cur := by simpa using hp
      subst this
      exact ⟨hn, fun c hc => ⟨h c hc, .inl hc⟩⟩
  | c :: t, cur, h, p, hp => by
    rw [pcs] at hp
    split at hp
    · have h0 := pcs_in t [] (fun _ h => by cases h)
      split at hp
      · obtain ⟨h1, h2⟩ := h0 p hp
        exact ⟨h1, fun c hc => ⟨(h2 c hc).1, .inr ((h2 c hc).2.elim (fun h => by cases h) (List.mem_cons_of_mem _))⟩⟩
      · next hn =>
        rcases List.mem_cons.1 hp with rfl | hp
        · exact ⟨hn, fun c hc => ⟨h c hc, .inl hc⟩⟩
        · obtain ⟨h1, h2⟩ := h0 p hp
          exact ⟨h1, fun c hc => ⟨(h2 c hc).1, .inr ((h2 c hc).2.elim (fun h => by cases h) (List.mem_cons_of_mem _))⟩⟩
    · next hn =>
      obtain ⟨h1, h2⟩ := pcs_in t (cur ++ [c]) (fun x hx => by
        rcases List.mem_append.1 hx with hx | hx
        · exact h x hx
        · rw [List.mem_singleton.1 hx]; simpa using hn) p hp
      refine ⟨h1, fun x hx => ⟨(h2 x hx).1, ?_⟩⟩
      rcases (h2 x hx).2 with h3 | h3
      · rcases List.mem_append.1 h3 with h3 | h3
        · exact .inl h3
        · exact .inr (by rw [List.mem_singleton.1 h3]; exact List.mem_cons_self)
      · exact .inr (List.mem_cons_of_mem _ h3)
/-- May a text be a word? -/
def rightW (p : List UInt8) : Bool := p.all (fun c => !blk c && decide (c.toNat ≠ 10)) && (decide (p ≠ []) && (decide (p.length ≤ 255) && !isMark p))
theorem rightW_unk : rightW unkW = true := by decide
theorem wds_right : ∀ (ps : List (List UInt8)), (∀ p ∈ ps, p ≠ [] ∧ ∀ c ∈ p, blk c = false ∧ c.toNat ≠ 10) → ∀ x ∈ wds ps, rightW x = true
  | [], _, x, hx => by cases hx
  | p :: ps, h, x, hx => by
    rw [wds] at hx
    have ih := wds_right ps fun q hq => h q (List.mem_cons_of_mem _ hq)
    split at hx
    · exact ih x hx
    · next hm =>
      rcases List.mem_cons.1 hx with rfl | hx
      · obtain ⟨h1, h2⟩ := h p List.mem_cons_self
        unfold wd1
        split
        · exact rightW_unk
        · unfold rightW
          simp only [Bool.and_eq_true, List.all_eq_true, Bool.not_eq_true', decide_eq_true_eq]
          exact ⟨fun c hc => h2 c hc, h1, by omega, by simpa using hm⟩
      · exact ih x hx
theorem words_right {l : List UInt8} (h : ∀ c ∈ l, c.toNat ≠ 10) : ∀ x ∈ wordsOf l, rightW x = true :=
  wds_right _ fun p hp => by
    obtain ⟨h1, h2⟩ := pcs_in l [] (fun _ h => by cases h) p hp
    exact ⟨h1, fun c hc => ⟨(h2 c hc).1, h c ((h2 c hc).2.elim (fun h => by cases h) id)⟩⟩

/-- The lines, cur being what stands ahead. -/
def lns : List UInt8 → List UInt8 → List (List UInt8)
  | cur, [] => [cur]
  | cur, c :: t => if c.toNat = 10 then cur :: lns [] t else lns (cur ++ [c]) t
def lnA (l : List UInt8) (s i : Nat) : List (List UInt8) := lns (cutL l s i) (l.drop i)
theorem lnA_zero (l : List UInt8) : lnA l 0 0 = lns [] l := by simp [lnA, cutL]
theorem lnA_go {l : List UInt8} {s i : Nat} (hs : s ≤ i) (hi : i < l.length) (hb : bt l i ≠ 10) : lnA l s i = lnA l s (i + 1) := by
  rw [bt_get l hi] at hb
  unfold lnA
  rw [List.drop_eq_getElem_cons hi, lns, if_neg hb, cutL_snoc l hs hi]
theorem lnA_cut {l : List UInt8} {s i : Nat} (hi : i < l.length) (hb : bt l i = 10) : lnA l s i = cutL l s i :: lnA l (i + 1) (i + 1) := by
  rw [bt_get l hi] at hb
  unfold lnA
  rw [List.drop_eq_getElem_cons hi, lns, if_pos hb, cutL_nil l (Nat.le_refl (i + 1))]
theorem lnA_last (l : List UInt8) (s : Nat) : lnA l s l.length = [l.drop s] := by
  unfold lnA
  rw [List.drop_length, lns, cutL, List.take_length]
theorem lns_len : ∀ (t cur : List UInt8), 1 ≤ (lns cur t).length ∧ (lns cur t).length ≤ t.length + 1
  | [], cur => by simp [lns]
  | c :: t, cur => by
    rw [lns]
    have h1 := lns_len t []
    have h2 := lns_len t (cur ++ [c])
    split <;> simp <;> omega
theorem lns_in : ∀ (t cur : List UInt8), (∀ c ∈ cur, c.toNat ≠ 10) → ∀ x ∈ lns cur t, ∀ c ∈ x, c.toNat ≠ 10
  | [], cur, h, x, hx => by
    have : x = cur := by simpa [lns] using hx
    subst this; exact h
  | c :: t, cur, h, x, hx => by
    rw [lns] at hx
    split at hx
    · rcases List.mem_cons.1 hx with rfl | hx
      · exact h
      · exact lns_in t [] (fun _ h => by cases h) x hx
    · next hn =>
      exact lns_in t (cur ++ [c]) (fun y hy => by
        rcases List.mem_append.1 hy with hy | hy
        · exact h y hy
        · rw [List.mem_singleton.1 hy]; exact hn) x hx
theorem lns_size : ∀ (t cur : List UInt8), ∀ x ∈ lns cur t, x.length ≤ cur.length + t.length
  | [], cur, x, hx => by
    have : x = cur := by simpa [lns] using hx
    subst this; omega
  | c :: t, cur, x, hx => by
    rw [lns] at hx
    split at hx
    · rcases List.mem_cons.1 hx with rfl | hx
      · omega
      · have := lns_size t [] x hx
        simp at this ⊢; omega
    · have := lns_size t (cur ++ [c]) x hx
      simp at this ⊢; omega
theorem lns_free : ∀ (t cur : List UInt8), (∀ c ∈ t, c.toNat ≠ 10) → lns cur t = [cur ++ t]
  | [], cur, _ => by simp [lns]
  | c :: t, cur, h => by rw [lns, if_neg (h c List.mem_cons_self), lns_free t _ fun x hx => h x (List.mem_cons_of_mem _ hx)]; simp
theorem lns_at : ∀ (x cur : List UInt8) (t : List UInt8), (∀ c ∈ x, c.toNat ≠ 10) → lns cur (x ++ 10 :: t) = (cur ++ x) :: lns [] t
  | [], cur, t, _ => by rw [List.nil_append, lns, if_pos (by decide), List.append_nil]
  | c :: x, cur, t, h => by rw [List.cons_append, lns, if_neg (h c List.mem_cons_self), lns_at x _ t fun y hy => h y (List.mem_cons_of_mem _ hy)]; simp

/-- The sentences of lines. -/
def snt : List (List UInt8) → List (List (List UInt8))
  | [] => []
  | x :: xs => if wordsOf x = [] then snt xs else wordsOf x :: snt xs
theorem snt_append (a b : List (List UInt8)) : snt (a ++ b) = snt a ++ snt b := by
  induction a with
  | nil => rfl
  | cons p a ih => rw [List.cons_append, snt, snt, ih]; split <;> rfl
theorem snt_none (a : List (List UInt8)) {x : List UInt8} (h : wordsOf x = []) : snt (a ++ [x]) = snt a := by rw [snt_append, snt, if_pos h, snt, List.append_nil]
theorem snt_some (a : List (List UInt8)) {x : List UInt8} (h : wordsOf x ≠ []) : snt (a ++ [x]) = snt a ++ [wordsOf x] := by rw [snt_append, snt, if_neg h, snt]
theorem snt_len (a : List (List UInt8)) : (snt a).length ≤ a.length := by
  induction a with
  | nil => exact Nat.le_refl _
  | cons p a ih => rw [snt]; split <;> simp <;> omega
theorem snt_in : ∀ (xs : List (List UInt8)), ∀ s ∈ snt xs, s ≠ [] ∧ ∃ x ∈ xs, s = wordsOf x
  | [], s, hs => by cases hs
  | x :: xs, s, hs => by
    rw [snt] at hs
    split at hs
    · obtain ⟨h1, y, h2, h3⟩ := snt_in xs s hs
      exact ⟨h1, y, List.mem_cons_of_mem _ h2, h3⟩
    · next hn =>
      rcases List.mem_cons.1 hs with rfl | hs
      · exact ⟨hn, x, List.mem_cons_self, rfl⟩
      · obtain ⟨h1, y, h2, h3⟩ := snt_in xs s hs
        exact ⟨h1, y, List.mem_cons_of_mem _ h2, h3⟩
/-- The sentences of a text. -/
def allS (l : List UInt8) : List (List (List UInt8)) := snt (lns [] l)
theorem allS_right (l : List UInt8) : ∀ s ∈ allS l, s ≠ [] ∧ s.length ≤ l.length ∧ ∀ x ∈ s, rightW x = true := fun s hs => by
  obtain ⟨h1, y, h2, rfl⟩ := snt_in _ s hs
  refine ⟨h1, ?_, words_right (lns_in l [] (fun _ h => by cases h) y h2)⟩
  have h3 := wds_len (pcs [] y)
  have h4 := pcs_len y []
  have h5 := lns_size l [] y h2
  simp at h4 h5
  unfold wordsOf; omega

/-- Words with a blank between any two. -/
def jn (f : Nat → List UInt8) : Nat → List UInt8
  | 0 => []
  | k + 1 => (if 0 < k then jn f k ++ [32] else jn f k) ++ f k
theorem pcs_split : ∀ (s cur t : List UInt8), pcs cur (s ++ 32 :: t) = pcs cur s ++ pcs [] t
  | [], cur, t => by
    rw [List.nil_append, pcs, pcs, if_pos (show blk 32 = true by decide)]
    split <;> rfl
  | c :: s, cur, t => by
    rw [List.cons_append, pcs, pcs]
    have h1 := pcs_split s [] t
    have h2 := pcs_split s (cur ++ [c]) t
    rw [h1, h2]
    split
    · split <;> rfl
    · rfl
theorem pcs_free : ∀ (t cur : List UInt8), (∀ c ∈ t, blk c = false) → cur ++ t ≠ [] → pcs cur t = [cur ++ t]
  | [], cur, _, h => by rw [List.append_nil] at h ⊢; rw [pcs, if_neg h]
  | c :: t, cur, h, _ => by
    rw [pcs, h c List.mem_cons_self, if_neg (by decide), pcs_free t _ (fun x hx => h x (List.mem_cons_of_mem _ hx)) (by simp)]
    simp
theorem pcs_jn (f : Nat → List UInt8) : ∀ k, (∀ j, j < k → f j ≠ [] ∧ ∀ c ∈ f j, blk c = false) → pcs [] (jn f k) = (List.range k).map f
  | 0, _ => by simp [jn, pcs]
  | k + 1, h => by
    have ih := pcs_jn f k fun j hj => h j (by omega)
    obtain ⟨h1, h2⟩ := h k (by omega)
    have h3 := pcs_free (f k) [] h2 (by simpa using h1)
    rw [List.nil_append] at h3
    rw [jn, List.range_succ, List.map_append]
    by_cases hk : 0 < k
    · rw [if_pos hk, List.append_assoc, List.singleton_append, pcs_split, ih, h3]; rfl
    · obtain rfl : k = 0 := by omega
      simpa [jn] using h3
theorem wds_id : ∀ ps : List (List UInt8), (∀ p ∈ ps, isMark p = false ∧ p.length ≤ 255) → wds ps = ps
  | [], _ => rfl
  | p :: ps, h => by
    obtain ⟨h1, h2⟩ := h p List.mem_cons_self
    rw [wds, if_neg (by rw [h1]; decide), wds_id ps fun q hq => h q (List.mem_cons_of_mem _ hq), wd1, if_neg (by omega)]
theorem right_parts {p : List UInt8} (h : rightW p = true) : p ≠ [] ∧ (∀ c ∈ p, blk c = false) ∧ isMark p = false ∧ p.length ≤ 255 := by
  unfold rightW at h
  simp only [Bool.and_eq_true, List.all_eq_true, Bool.not_eq_true', decide_eq_true_eq] at h
  exact ⟨h.2.1, fun c hc => (h.1 c hc).1, h.2.2.2, h.2.2.1⟩
theorem words_jn (f : Nat → List UInt8) (k : Nat) (h : ∀ j, j < k → rightW (f j) = true) : wordsOf (jn f k) = (List.range k).map f := by
  unfold wordsOf
  rw [pcs_jn f k fun j hj => ⟨(right_parts (h j hj)).1, (right_parts (h j hj)).2.1⟩]
  refine wds_id _ fun p hp => ?_
  obtain ⟨j, hj, rfl⟩ := List.mem_map.1 hp
  have := right_parts (h j (List.mem_range.1 hj))
  exact ⟨this.2.2.1, this.2.2.2⟩
theorem jn_len (f : Nat → List UInt8) (B : Nat) : ∀ k, (∀ j, j < k → (f j).length ≤ B) → (jn f k).length ≤ k * (B + 1)
  | 0, _ => by simp [jn]
  | k + 1, h => by
    have ih := jn_len f B k fun j hj => h j (by omega)
    have := h k (by omega)
    rw [jn, Nat.succ_mul]
    split <;> simp <;> omega
end Go.Proofs.Yteiegedffjkbeaa
