/-
  The document's own answers: bits as elements: Add, May, Bit, Cut.
-/
import Derived.Test.YtgcaenpflndibaaDoorOf
import Derived.Laws.AppendOwnNone
namespace Go.Proofs.YtgcaenpflndibaaDoor
open Go.RowKit

/-- The cells of the n lowest bits of V. -/
def bools (V n : Nat) : List Value := (List.range n).map fun i => Value.bool (V.testBit i)
theorem bools_len (V n : Nat) : (bools V n).length = n := by simp [bools]
theorem bools_get (V n i : Nat) (h : i < n) : (bools V n)[i]? = some (.bool (V.testBit i)) := by simp [bools, h]
theorem bools_succ (V n : Nat) : bools V (n + 1) = bools V n ++ [.bool (V.testBit n)] := by simp [bools, List.range_succ]
theorem bools_congr {V U n : Nat} (h : ∀ i, i < n → V.testBit i = U.testBit i) : bools V n = bools U n := by
  unfold bools
  apply List.map_congr_left
  intro i hi
  rw [h i (by simpa using hi)]

/-- What is appended is nil, or lies somewhere. -/
theorem wpList_append_from {P : Program} (w : World) {ops : Array Oper} {rest : List Oper} {o : Oper} {a : Act} {Q : Exit → Act → World → Prop} (hgd : o.guard = none) (s x : Operand) (t : TypeId)
    (ho : o.op = .call { callee := .builtin .append, args := #[s, x], argTypes := #[t, t] })
    (base : Nat) (e : TypeId) (i : TypeInfo) (z : Value) (size bytes : Nat) (ht : P.underlying t = some (.slice e)) (hi : P.info? e = some i) (hz : i.zero = some z)
    (hsize : i.size = size) (hby : i.bytes = bytes) (hzs : z.cells.size = size) (hsz : 0 < size)
    (v : Value) (n : Nat) (xs : List Value) (hs : a.eval s = v) (hown : w.ownsRow base e size v n xs)
    (vs : Value) (m : Nat) (news : List Value) (hx : a.eval x = vs) (hl : news.length = m * size)
    (hsrc : (vs = .slice none 0 0 ∧ m = 0) ∨ ∃ ad c, vs = .slice (some ad) m c ∧ ∀ j u, news[j]? = some u → w.cell? (ad.add j) = some u) (h1 : ∀ u ∈ news, u.oneCell' = true)
    (h63 : n + m ≤ maxLen) (hbytes : (n + m) * bytes ≤ 140737488355328) (hbase : base ≤ w.heap.size)
    (h : ∀ v' w', w'.ownsRow base e size v' (n + m) (xs ++ news) → w.grownBy w' v.ownBlock → wpList P ops Q rest (a.put o.dst v') w') : wpList P ops Q (o :: rest) a w := by
  rcases hsrc with ⟨rfl, rfl⟩ | ⟨ad, c, rfl, hc⟩
  · obtain rfl : news = [] := List.eq_nil_of_length_eq_zero (by simpa using hl)
    refine wpList_append_own_none hgd s x t ho base e i size ht hi v n xs hs hown hx (h v w (by simpa using hown) ⟨rfl, rfl, rfl, Nat.le_refl _, fun _ _ _ => rfl⟩)
  · exact wpList_append_own w hgd s x t ho base e i z size bytes ht hi hz hsize hby hzs hsz v n xs hs hown ad m c news hx hl hc h1 h63 hbytes hbase fun v' w' h2 h3 _ => h v' w' h2 h3

theorem Tryd.info4 : (Tryd.prog.info? 4).map (fun i => (i.zero, i.size, i.bytes)) = some (some (.bool false), 1, 1) := by kernel_rfl

theorem one_cell (w : World) (v : Value) (e : TypeId) : ∀ (j : Nat) u, [v][j]? = some u → (w.alloc (.cells #[v] e)).cell? ((⟨w.heap.size, 0, none⟩ : Addr).add j) = some u := by
  intro j u hj
  match j, hj with
  | 0, hj => simp at hj; subst hj; simp [Addr.add]
theorem one_bool (b : Bool) : ∀ u ∈ [Value.bool b], u.oneCell' = true := by intro u hu; simp at hu; subst hu; rfl
theorem one_u64 (z : Int) : ∀ u ∈ [Value.int .u64 z], u.oneCell' = true := by intro u hu; simp at hu; subst hu; rfl

/-- A world that has new blocks, and else is as it was. -/
abbrev More (w w' : World) : Prop := Below w.heap.size w w'
theorem More.trans {a b c : World} (h : More a b) (k : More b c) : More a c := Below.trans h (k.mono h.size)
theorem More.own {w w' : World} {base : Nat} {e : TypeId} {size : Nat} {v : Value} {n : Nat} {xs : List Value} (h : w.ownsRow base e size v n xs) (k : More w w') : w'.ownsRow base e size v n xs :=
  h.kept (row := none) ⟨k.os, k.tape, k.output, k.size, fun i hi _ => k.block i hi⟩ (by cases v.ownBlock <;> simp)
theorem More.row {w w' : World} {base b V n : Nat} (h : RowAt w base b V n) (k : More w w') : RowAt w' base b V n := by
  obtain ⟨v, hb, hown⟩ := h.mem
  exact ⟨h.lo, h.fit, h.len, v, by rw [k.block b (lt_of_block hb)]; exact hb, k.own hown⟩
theorem More.tab {w w' : World} (h : TabIn w) (k : More w w') : TabIn w' := by
  have h0 : 0 < w.heap.size := World.block_lt_of_cell? w ⟨0, 0, none⟩ (h 0 (by omega))
  exact h.below k h0
theorem More.drewN (w : World) (m : Nat) : More w (w.drewN m) := ⟨rfl, rfl, rfl, Nat.le_refl _, fun _ _ => rfl⟩

/-- A slice of n bits is read. -/
def BRd (w : World) (v : Value) (n V : Nat) : Prop :=
  (n = 0 ∧ ∃ ao cap, v = .slice ao 0 cap) ∨ ∃ g cap, v = .slice (some ⟨g, 0, none⟩) n cap ∧ ∀ j, j < n → w.cell? ⟨g, j, none⟩ = some (.bool (V.testBit j))
theorem brd_of_own {w : World} {base : Nat} {v : Value} {n V : Nat} (h : w.ownsRow base 4 1 v n (bools V n)) : BRd w v n V := by
  rcases h.2 with ⟨rfl, hn⟩ | ⟨g, cap, cur, rfl, _, hg, _⟩
  · exact .inl ⟨hn, _, _, rfl⟩
  · exact .inr ⟨g, cap, rfl, fun j hj => by rw [h.cellAt j (by omega), bools_get _ _ _ hj]⟩
theorem BRd.shape {w : World} {v : Value} {n V : Nat} (h : BRd w v n V) : ∃ ao cap, v = .slice ao n cap := by
  rcases h with ⟨rfl, ao, cap, rfl⟩ | ⟨g, cap, rfl, _⟩
  · exact ⟨_, _, rfl⟩
  · exact ⟨_, _, rfl⟩

theorem cut_add (V k O P : Nat) (a : Int) (h64 : k < 64) (hb : bitI V (a + k) = true) (hO : O = cutV V a k) (hP : P = 2 ^ k % 18446744073709551616) : IntKind.u64.wrap ((O : Int) + (P : Int)) = ((cutV V a (k + 1) : Nat) : Int) := by
  have hs := cutV_succ V a k
  have hl := cutV_lt V a (k + 1) (by omega)
  unfold bitI at hb
  rw [Bool.and_eq_true, decide_eq_true_eq] at hb
  rw [if_pos hb, ← hO] at hs
  have h2 : 2 ^ k < 18446744073709551616 := Nat.pow_lt_pow_right (by decide) h64
  rw [Nat.mod_eq_of_lt h2] at hP
  rw [wrapU _ (by omega) (by omega)]
  omega
theorem cut_none (V k : Nat) (a : Int) (hb : bitI V (a + k) = false) : cutV V a (k + 1) = cutV V a k := by
  rw [cutV_succ, if_neg (fun h => by simp [bitI, h.1, h.2] at hb), Nat.add_zero]
theorem cut_off (V n k : Nat) (a : Int) (hV : V < 2 ^ n) (h64 : k < 64) (h : ¬ (-63 ≤ a ∧ a < n)) : bitI V (a + k) = false := by
  unfold bitI
  by_cases h1 : 0 ≤ a + k
  · rw [bit_above hV (show n ≤ (a + k).toNat by omega)]; simp
  · simp [h1]

end Go.Proofs.YtgcaenpflndibaaDoor
