/-
  n-grams, plainly: which there are, how often, what stands ahead of a place; a padded sentence.
-/
import Derived.Test.YtiiflegfbieblaaMathA
namespace Go.Proofs.Ytiiflegfbieblaa

/-- The n numbers of a list from place i on. -/
def gr (p : List Int) (n i : Nat) : List Int := (p.drop i).take n
theorem gr_len {p : List Int} {n i : Nat} (h : i + n ≤ p.length) : (gr p n i).length = n := by
  unfold gr; rw [List.length_take, List.length_drop]; omega
theorem gr_get {p : List Int} {n i j : Nat} (hj : j < n) : (gr p n i).getD j 0 = p.getD (i + j) 0 := by
  unfold gr
  rw [List.getD_eq_getElem?_getD, List.getElem?_take, if_pos hj, List.getElem?_drop, ← List.getD_eq_getElem?_getD]
/-- How many n-grams a list of k numbers has. -/
def cn (k : Nat) (n : Int) : Nat := if n < 1 then 0 else ((k : Int) + 1 - n).toNat
theorem cn_low {k : Nat} {n : Int} (h : n < 1) : cn k n = 0 := if_pos h
theorem cn_of {k : Nat} {n : Int} (h : 1 ≤ n) : (cn k n : Int) = max 0 ((k : Int) + 1 - n) := by
  unfold cn; rw [if_neg (by omega)]; omega
theorem cn_le (k : Nat) (n : Int) : cn k n ≤ k := by
  unfold cn; split <;> omega
theorem cn_fit {k i : Nat} {n : Int} (h : i < cn k n) : 1 ≤ n ∧ i + n.toNat ≤ k ∧ (n.toNat : Int) = n := by
  unfold cn at h
  split at h
  · omega
  · omega
theorem cn_more {k i : Nat} {n : Int} (h1 : 1 ≤ n) : (i : Int) < (k : Int) - n + 1 ↔ i < cn k n := by
  have := cn_of (k := k) h1
  omega
theorem cn_room {k i : Nat} {n : Int} (h1 : 1 ≤ n) : n ≤ (k : Int) - (i : Int) ↔ i < cn k n := by
  have := cn_of (k := k) h1
  omega
/-- The n-grams of a list, in order. -/
def grs (p : List Int) (n : Int) : List (List Int) := (List.range (cn p.length n)).map (gr p n.toNat)
theorem grs_len (p : List Int) (n : Int) : (grs p n).length = cn p.length n := by simp [grs]
theorem grs_get {p : List Int} {n : Int} {i : Nat} (h : i < cn p.length n) : (grs p n).getD i [] = gr p n.toNat i := by
  simp [grs, List.getD, h]
theorem grs_size {p : List Int} {n : Int} {i : Nat} (h : i < cn p.length n) : ((grs p n).getD i []).length = n.toNat := by
  rw [grs_get h, gr_len (cn_fit h).2.1]
/-- The n-grams of all lists, in order. -/
def eac (l : List (List Int)) (n : Int) : List (List Int) := (l.map fun p => grs p n).flatten
theorem getD_in {α : Type} {l : List α} {d : α} {i : Nat} (h : i < l.length) : l.getD i d ∈ l := by
  rw [List.getD_eq_getElem?_getD, List.getElem?_eq_getElem h]; exact List.getElem_mem h
theorem take_in {α : Type} {l : List α} {d : α} {i : Nat} (h : i < l.length) : l.take (i + 1) = l.take i ++ [l.getD i d] := by
  rw [List.take_succ_eq_append_getElem h, List.getD_eq_getElem?_getD, List.getElem?_eq_getElem h]; rfl
theorem eac_next {l : List (List Int)} {n : Int} {i : Nat} (h : i < l.length) : eac (l.take (i + 1)) n = eac (l.take i) n ++ grs (l.getD i []) n := by
  unfold eac; rw [take_in (d := []) h]; simp
theorem eac_all {l : List (List Int)} {n : Int} {i : Nat} (h : i < l.length) : eac l n = eac (l.take i) n ++ (grs (l.getD i []) n ++ eac (l.drop (i + 1)) n) := by
  have h1 : l = l.take (i + 1) ++ l.drop (i + 1) := (List.take_append_drop _ _).symm
  have h2 : eac l n = eac (l.take (i + 1)) n ++ eac (l.drop (i + 1)) n := by
    unfold eac
    rw [← List.flatten_append, ← List.map_append, ← h1]
  rw [h2, eac_next h, List.append_assoc]
theorem eac_len (l : List (List Int)) (n : Int) (hx : ∀ x ∈ l, x.length ≤ 30) : (eac l n).length ≤ l.length * 30 := by
  induction l with
  | nil => simp [eac]
  | cons p l ih =>
    have h1 : eac (p :: l) n = grs p n ++ eac l n := by simp [eac]
    rw [h1, List.length_append, grs_len, List.length_cons]
    have h2 := cn_le p.length n
    have h3 := hx p List.mem_cons_self
    have h4 := ih fun x h => hx x (List.mem_cons_of_mem _ h)
    omega
theorem eac_take_len (l : List (List Int)) (n : Int) (hx : ∀ x ∈ l, x.length ≤ 30) (hl : l.length ≤ 12) (i : Nat) : (eac (l.take i) n).length ≤ 360 := by
  have h := eac_len (l.take i) n fun x h => hx x (List.mem_of_mem_take h)
  rw [List.length_take] at h
  omega
/-- Within list i: the k-th of its n-grams, among all. -/
theorem eac_at {l : List (List Int)} {n : Int} {i k : Nat} (h : i < l.length) (hk : k < cn (l.getD i []).length n) : (eac l n).getD ((eac (l.take i) n).length + k) [] = gr (l.getD i []) n.toNat k := by
  rw [eac_all h, List.getD_eq_getElem?_getD, List.getElem?_append_right (by omega), Nat.add_sub_cancel_left, List.getElem?_append_left (by rw [grs_len]; exact hk), ← List.getD_eq_getElem?_getD, grs_get hk]
theorem eac_in {l : List (List Int)} {n : Int} {i k : Nat} (h : i < l.length) (hk : k ≤ cn (l.getD i []).length n) : (eac (l.take i) n).length + k ≤ (eac l n).length := by
  rw [eac_all h]; simp only [List.length_append, grs_len]; omega
theorem eac_mem {l : List (List Int)} {n : Int} {h : List Int} (hm : h ∈ eac l n) : (h.length : Int) = n := by
  unfold eac at hm
  rw [List.mem_flatten] at hm
  obtain ⟨L, hL, hh⟩ := hm
  obtain ⟨p, _, rfl⟩ := List.mem_map.1 hL
  unfold grs at hh
  obtain ⟨i, hi, rfl⟩ := List.mem_map.1 hh
  rw [List.mem_range] at hi
  have := cn_fit hi
  rw [gr_len this.2.1, this.2.2]
theorem eac_short {l : List (List Int)} {n : Int} {h : List Int} (hm : h ∈ eac l n) (hx : ∀ x ∈ l, x.length ≤ 30) : h.length ≤ 30 := by
  unfold eac at hm
  rw [List.mem_flatten] at hm
  obtain ⟨L, hL, hh⟩ := hm
  obtain ⟨p, hp, rfl⟩ := List.mem_map.1 hL
  unfold grs at hh
  obtain ⟨i, hi, rfl⟩ := List.mem_map.1 hh
  rw [List.mem_range] at hi
  have h1 := cn_fit hi
  have h2 := hx p hp
  rw [gr_len h1.2.1]
  omega
/-- How often g is among the first k. -/
def ctk (L : List (List Int)) (g : List Int) (k : Nat) : Nat := (L.take k).count g
theorem ctk_zero (L : List (List Int)) (g : List Int) : ctk L g 0 = 0 := by simp [ctk]
theorem ctk_yes {L : List (List Int)} {g : List Int} {k : Nat} (h : k < L.length) (he : L.getD k [] = g) : ctk L g (k + 1) = ctk L g k + 1 := by
  unfold ctk; rw [take_in (d := []) h, he]; simp
theorem ctk_no {L : List (List Int)} {g : List Int} {k : Nat} (h : k < L.length) (he : ¬ L.getD k [] = g) : ctk L g (k + 1) = ctk L g k := by
  unfold ctk; rw [take_in (d := []) h, List.count_append, List.count_singleton, if_neg (by simpa using he), Nat.add_zero]
theorem ctk_all (L : List (List Int)) (g : List Int) : ctk L g L.length = L.count g := by simp [ctk]
theorem ctk_le (L : List (List Int)) (g : List Int) (k : Nat) : ctk L g k ≤ k := by
  unfold ctk
  have h1 := List.count_le_length (a := g) (l := L.take k)
  rw [List.length_take] at h1
  omega
theorem eac_count {l : List (List Int)} {n : Int} {i : Nat} (g : List Int) (h : i < l.length) : (eac (l.take (i + 1)) n).count g = (eac (l.take i) n).count g + (grs (l.getD i []) n).count g := by
  rw [eac_next h, List.count_append]
/-- The last n of the numbers that stand ahead of place i. -/
def ahd (p : List Int) (i n : Int) : List Int := if n < 1 ∨ i < 0 ∨ (p.length : Int) < i then [] else (p.take i.toNat).drop (i - n).toNat
theorem ahd_none {p : List Int} {i n : Int} (h : n < 1 ∨ i < 0 ∨ (p.length : Int) < i) : ahd p i n = [] := if_pos h
theorem ahd_some {p : List Int} {i n : Int} (h1 : 1 ≤ n) (h2 : 0 ≤ i) (h3 : i ≤ p.length) : ahd p i n = (p.take i.toNat).drop (i - n).toNat := if_neg (by omega)
/-- What has come behind k places, of those from place m on. -/
def ahT (p : List Int) (m k : Nat) : List Int := (p.take k).drop m
theorem ahT_in {p : List Int} {m k : Nat} (h : k < p.length) (hm : m ≤ k) : ahT p m (k + 1) = ahT p m k ++ [p.getD k 0] := by
  unfold ahT; rw [take_in (d := 0) h, List.drop_append_of_le_length (by rw [List.length_take]; omega)]
theorem ahT_out {p : List Int} {m k : Nat} (hm : ¬ m ≤ k) : ahT p m (k + 1) = ahT p m k := by
  unfold ahT
  rw [List.drop_eq_nil_of_le (by rw [List.length_take]; omega), List.drop_eq_nil_of_le (by rw [List.length_take]; omega)]
theorem ahT_zero (p : List Int) (m : Nat) : ahT p m 0 = [] := by simp [ahT]
theorem ahT_len {p : List Int} {m k : Nat} (h : k ≤ p.length) : (ahT p m k).length = k - m := by
  unfold ahT; rw [List.length_drop, List.length_take]; omega
theorem ahT_get {p : List Int} {m k j : Nat} (hj : m + j < k) : (ahT p m k).getD j 0 = p.getD (m + j) 0 := by
  unfold ahT
  rw [List.getD_eq_getElem?_getD, List.getElem?_drop, List.getElem?_take, if_pos hj, ← List.getD_eq_getElem?_getD]
/-- A padded sentence. -/
def pad (ts ws : List (List UInt8)) : List Int := 1 :: (ws.map fun s => idI ts s) ++ [2]
theorem pad_len (ts ws : List (List UInt8)) : (pad ts ws).length = ws.length + 2 := by simp [pad]
/-- Lists that have the same numbers. -/
theorem int_lists {l m : List Int} (hl : l.length = m.length) (h : ∀ j, j < l.length → l.getD j 0 = m.getD j 0) : l = m := by
  apply List.ext_getElem hl
  intro j h1 h2
  have := h j h1
  simpa [List.getD, List.getElem?_eq_getElem h1, List.getElem?_eq_getElem h2] using this
/-- Ints as values. -/
def zs (l : List Int) : List Value := l.map fun x => .int .i64 x
theorem zs_len (l : List Int) : (zs l).length = l.length := by simp [zs]
theorem zs_snoc (l : List Int) (x : Int) : zs (l ++ [x]) = zs l ++ [.int .i64 x] := by simp [zs]
theorem zs_app (l m : List Int) : zs (l ++ m) = zs l ++ zs m := by simp [zs]
theorem zs_get (l : List Int) (k : Nat) (h : k < l.length) : (zs l)[k]? = some (.int .i64 (l.getD k 0)) := by
  simp [zs, List.getD, List.getElem?_eq_getElem h]
theorem zs_one (l : List Int) : ∀ u ∈ zs l, u.oneCell' = true := by
  intro u hu; simp [zs] at hu; obtain ⟨_, _, rfl⟩ := hu; rfl
theorem zs_set (l : List Int) (k : Nat) (x : Int) : (zs l).set k (.int .i64 x) = zs (l.set k x) := by simp [zs, List.map_set]
end Go.Proofs.Ytiiflegfbieblaa
