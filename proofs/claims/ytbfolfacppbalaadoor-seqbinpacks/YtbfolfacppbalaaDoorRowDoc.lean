/-
  The document's own answers: bits as elements: Add, May, Bit, Cut.
  The document's own answers: Words, Same, Ones, Next, Of.
-/
import Derived.Test.YtbfolfacppbalaaDoorRowB
import Derived.Laws.AppendOwnNone
namespace Go.Proofs.YtbfolfacppbalaaDoor
open Go.RowKit

/-- The cells of the n lowest bits of V. -/
def bools (V n : Nat) : List Value := (List.range n).map fun i => Value.bool (V.testBit i)
theorem bools_len (V n : Nat) : (bools V n).length = n := by simp [bools]
theorem bools_get (V n i : Nat) (h : i < n) : (bools V n)[i]? = some (.bool (V.testBit i)) := by simp [bools, h]
theorem bools_succ (V n : Nat) : bools V (n + 1) = bools V n ++ [.bool (V.testBit n)] := by simp [bools, List.range_succ]
theorem bools_congr {V U n : Nat} (h : ∀ i, i < n → V.testBit i = U.testBit i) : bools V n = bools U n := by
  unfold bools
  apply List.map_congr_left
  intro i hi
  rw [h i (by simpa using hi)]

/-- What is appended is nil, or lies somewhere. -/
theorem wpList_append_from {P : Program} (w : World) {ops : Array Oper} {rest : List Oper} {o : Oper} {a : Act} {Q : Exit → Act → World → Prop} (hgd : o.guard = none) (s x : Operand) (t : TypeId)
    (ho : o.op = .call { callee := .builtin .append, args := #[s, x], argTypes := #[t, t] })
    (base : Nat) (e : TypeId) (i : TypeInfo) (z : Value) (size bytes : Nat) (ht : P.underlying t = some (.slice e)) (hi : P.info? e = some i) (hz : i.zero = some z)
    (hsize : i.size = size) (hby : i.bytes = bytes) (hzs : z.cells.size = size) (hsz : 0 < size)
    (v : Value) (n : Nat) (xs : List Value) (hs : a.eval s = v) (hown : w.ownsRow base e size v n xs)
    (vs : Value) (m : Nat) (news : List Value) (hx : a.eval x = vs) (hl : news.length = m * size)
    (hsrc : (vs = .slice none 0 0 ∧ m = 0) ∨ ∃ ad c, vs = .slice (some ad) m c ∧ ∀ j u, news[j]? = some u → w.cell? (ad.add j) = some u) (h1 : ∀ u ∈ news, u.oneCell' = true)
    (h63 : n + m ≤ maxLen) (hbytes : (n + m) * bytes ≤ 140737488355328) (hbase : base ≤ w.heap.size)
    (h : ∀ v' w', w'.ownsRow base e size v' (n + m) (xs ++ news) → w.grownBy w' v.ownBlock → wpList P ops Q rest (a.put o.dst v') w') : wpList P ops Q (o :: rest) a w := by
  rcases hsrc with ⟨rfl, rfl⟩ | ⟨ad, c, rfl, hc⟩
  · obtain rfl : news = [] := List.eq_nil_of_length_eq_zero (by simpa using hl)
    refine wpList_append_own_none hgd s x t ho base e i size ht hi v n xs hs hown hx (h v w (by simpa using hown) ⟨rfl, rfl, rfl, Nat.le_refl _, fun _ _ _ => rfl⟩)
  · exact wpList_append_own w hgd s x t ho base e i z size bytes ht hi hz hsize hby hzs hsz v n xs hs hown ad m c news hx hl hc h1 h63 hbytes hbase fun v' w' h2 h3 _ => h v' w' h2 h3

theorem Tryd.info4 : (Tryd.prog.info? 4).map (fun i => (i.zero, i.size, i.bytes)) = some (some (.bool false), 1, 1) := by kernel_rfl

theorem one_cell (w : World) (v : Value) (e : TypeId) : ∀ (j : Nat) u, [v][j]? = some u → (w.alloc (.cells #[v] e)).cell? ((⟨w.heap.size, 0, none⟩ : Addr).add j) = some u := by
  intro j u hj
  match j, hj with
  | 0, hj => simp at hj; subst hj; simp [Addr.add]
theorem one_bool (b : Bool) : ∀ u ∈ [Value.bool b], u.oneCell' = true := by intro u hu; simp at hu; subst hu; rfl
theorem one_u64 (z : Int) : ∀ u ∈ [Value.int .u64 z], u.oneCell' = true := by intro u hu; simp at hu; subst hu; rfl

/-- A world that has new blocks, and else is as it was. -/
abbrev More (w w' : World) : Prop := Below w.heap.size w w'
theorem More.trans {a b c : World} (h : More a b) (k : More b c) : More a c := Below.trans h (k.mono h.size)
theorem More.own {w w' : World} {base : Nat} {e : TypeId} {size : Nat} {v : Value} {n : Nat} {xs : List Value} (h : w.ownsRow base e size v n xs) (k : More w w') : w'.ownsRow base e size v n xs :=
  h.kept (row := none) ⟨k.os, k.tape, k.output, k.size, fun i hi _ => k.block i hi⟩ (by cases v.ownBlock <;> simp)
theorem More.row {w w' : World} {base b V n : Nat} (h : RowAt w base b V n) (k : More w w') : RowAt w' base b V n := by
  obtain ⟨v, hb, hown⟩ := h.mem
  exact ⟨h.lo, h.fit, h.len, v, by rw [k.block b (lt_of_block hb)]; exact hb, k.own hown⟩
theorem More.tab {w w' : World} (h : TabIn w) (k : More w w') : TabIn w' := by
  have h0 : 0 < w.heap.size := World.block_lt_of_cell? w ⟨0, 0, none⟩ (h 0 (by omega))
  exact h.below k h0
theorem More.drewN (w : World) (m : Nat) : More w (w.drewN m) := ⟨rfl, rfl, rfl, Nat.le_refl _, fun _ _ => rfl⟩

theorem may (x : Nat) (N : Int) (hx : x < 18446744073709551616) (w : World) : Calls Tryd.prog 46 #[.int .u64 x, .int .i64 N] w fun e w' => e = .returned (.bool (decide (addErr x N = 0))) ∧ w' = w := by
  by_cases h0 : N < 0
  · rw [show decide (addErr x N = 0) = false by simp [addErr, h0]]
    go_enter Tryd.func46, Tryd.ntmps46
    go_wp2
    go_ret
    exact ⟨rfl, rfl⟩
  by_cases h1 : 64 < N
  · rw [show decide (addErr x N = 0) = false by simp [addErr, h1]]
    go_enter Tryd.func46, Tryd.ntmps46
    go_wp2
    go_ret
    exact ⟨rfl, rfl⟩
  obtain ⟨N, rfl⟩ := Int.eq_ofNat_of_zero_le (show 0 ≤ N by omega)
  have he : decide (addErr x N = 0) = decide (Lib.bitLen x ≤ N) := by
    unfold addErr
    rw [if_neg (by omega)]
    by_cases h : N < Lib.bitLen x
    · have : ¬ Lib.bitLen x ≤ N := by omega
      simp [h, this]
    · have : Lib.bitLen x ≤ N := by omega
      simp [h, this]
  rw [he]
  clear he
  go_enter Tryd.func46, Tryd.ntmps46
  go_wp2_with (go_at_call 63; refine (ref_Width x hx _).mono ?_; rintro e w' ⟨rfl, rfl⟩)
  go_ret
  exact ⟨rfl, rfl⟩

set_option maxRecDepth 1000000 in
theorem ref_add (base n V x N : Nat) (v : Value) (w : World) (hown : w.ownsRow base 4 1 v n (bools V n)) (hV : V < 2 ^ n) (hx : x < 18446744073709551616) (hn : n ≤ 1099511627776) (hN : N ≤ 64) :
    Calls Tryd.prog 47 #[v, .int .u64 x, .int .i64 N] w fun e w' => ∃ v', e = .returned v' ∧ w'.ownsRow w.heap.size 4 1 v' (n + N) (bools (cat V n x) (n + N)) ∧ More w w' := by
  obtain ⟨i0, hi, hz0, hz1, hz2⟩ := info_parts Tryd.info4
  have he : (w.alloc (.cells #[] 4)).ownsRow w.heap.size 4 1 (.slice (some ⟨w.heap.size, 0, none⟩) 0 0) 0 [] := World.ownsRow_lit w #[] 0 (Nat.le_refl _) (by decide) rfl
  have hsrc : (v = .slice none 0 0 ∧ n = 0) ∨ ∃ ad c, v = .slice (some ad) n c ∧ ∀ j u, (bools V n)[j]? = some u → (w.alloc (.cells #[] 4)).cell? (ad.add j) = some u := by
    rcases hown.2 with h | ⟨g, cap, cur, rfl, _, hg, _⟩
    · exact .inl h
    · refine .inr ⟨_, _, rfl, fun j u hu => ?_⟩
      have hj : j < n := by have := (List.getElem?_eq_some_iff.1 hu).1; simpa [bools_len] using this
      rw [Addr.add_lit, World.cell?_alloc_past _ _ _ (lt_of_block hg), Nat.zero_add, hown.cellAt j (by omega), hu]
  have HE : Hid _ := And.intro he (And.intro hsrc (And.intro hV hown))
  obtain ⟨ao, cap, rfl⟩ := shape_of hown
  clear he hsrc hV hown
  go_enter Tryd.func47, Tryd.ntmps47
  go_wp2_with (at_builtin; refine wpList_append_from _ rfl (.tmp 9) (.tmp 10) 25 rfl w.heap.size 4 i0 (.bool false) 1 1 Tryd.underlying25 hi hz0 hz1 hz2 rfl (by decide) _ _ _ rfl HE.out.1 _ n (bools V n) rfl (by rw [bools_len, Nat.mul_one]) HE.out.2.1 ?c2 ?c3 ?c4 ?c5 ?_)
  case c2 => intro y hy; simp [bools] at hy; obtain ⟨_, _, rfl⟩ := hy; rfl
  case c3 => unfold maxLen; omega
  case c4 => omega
  case c5 => simp
  intro v0 w1 hown0 hgrow0
  have hbel0 : Below w.heap.size w w1 := ((Below.refl _ w).alloc (Nat.le_refl _) (.cells #[] 4)).grown hgrow0 (by simp) (fun k hk => by simp [Value.ownBlock] at hk; omega)
  have hV := HE.out.2.2.1
  rw [bools_congr (U := cat V n x) (fun i hi => by rw [cat_bit x hV, if_pos hi])] at hown0
  have HF : Hid _ := And.intro hown0 (And.intro hbel0 hV)
  clear hown0 hgrow0 hbel0 HE hV
  go_wp2
  go_loopw [7, 8] (fun v i wr => ∃ k : Nat, k ≤ N ∧ i = .int .i64 k ∧ Hid (wr.ownsRow w.heap.size 4 1 v (n + k) (bools (cat V n x) (n + k)) ∧ Below w.heap.size w wr)) (fun _ i _ => N - (intOf i).toNat)
  case atStart => exact ⟨0, Nat.zero_le _, rfl, Hid.mk ⟨HF.out.1, HF.out.2.1⟩⟩
  case round =>
    obtain ⟨k, hk, rfl, hown⟩ := hrel
    obtain ⟨ao1, cap1, rfl⟩ := shape_of hown.out.1
    by_cases hkN : k < N
    · have hlast : Hid (bools (cat V n x) (n + k) ++ [.bool (btI x k)] = bools (cat V n x) (n + k + 1)) := by
        show _ = _
        rw [bools_succ, cat_bit x HF.out.2.2, if_neg (by omega), show n + k - n = k by omega]
        have : btI x k = x.testBit k := by
          rw [bit_eq]; simp [btI]; omega
        rw [this]
      go_wp2_with (first
        | (go_at_call 57; refine (ref_Bit x hx k _).mono ?_; rintro e w' ⟨rfl, rfl⟩)
        | (at_builtin; refine wpList_append_own _ rfl (.tmp 17) (.tmp 21) 25 rfl w.heap.size 4 i0 (.bool false) 1 1 Tryd.underlying25 hi hz0 hz1 hz2 rfl (by decide) _ _ _ rfl (hown.out.1.alloc _) ⟨_, 0, none⟩ 1 1 [.bool (btI x k)] rfl rfl ?c1 ?c2b ?c3b ?c4b ?c5b ?_))
      case c1 => exact one_cell _ _ _
      case c2b => exact one_bool _
      case c3b => unfold maxLen; omega
      case c4b => omega
      case c5b => have := hown.out.2.size; simp; omega
      intro v2 w2 hown2 hgrow2 _
      rw [hlast.out] at hown2
      have hbel2 : Below w.heap.size w w2 := (hown.out.2.alloc hown.out.2.size _).grown hgrow2 (by have := hown.out.2.size; simp; omega) (fun j hj => (hown.out.1.lt j hj).1)
      have HG : Hid _ := And.intro hown2 hbel2
      clear hown2 hbel2 hgrow2 hown
      go_wp2
      refine ⟨⟨k + 1, by omega, by go_num, Hid.mk HG.out⟩, by simp [intOf]; omega⟩
    · go_wp2
      obtain rfl : k = N := by omega
      go_ret
      exact ⟨_, rfl, hown.out.1, hown.out.2⟩

/-- A slice of n bits is read. -/
def BRd (w : World) (v : Value) (n V : Nat) : Prop :=
  (n = 0 ∧ ∃ ao cap, v = .slice ao 0 cap) ∨ ∃ g cap, v = .slice (some ⟨g, 0, none⟩) n cap ∧ ∀ j, j < n → w.cell? ⟨g, j, none⟩ = some (.bool (V.testBit j))
theorem brd_of_own {w : World} {base : Nat} {v : Value} {n V : Nat} (h : w.ownsRow base 4 1 v n (bools V n)) : BRd w v n V := by
  rcases h.2 with ⟨rfl, hn⟩ | ⟨g, cap, cur, rfl, _, hg, _⟩
  · exact .inl ⟨hn, _, _, rfl⟩
  · exact .inr ⟨g, cap, rfl, fun j hj => by rw [h.cellAt j (by omega), bools_get _ _ _ hj]⟩
theorem BRd.shape {w : World} {v : Value} {n V : Nat} (h : BRd w v n V) : ∃ ao cap, v = .slice ao n cap := by
  rcases h with ⟨rfl, ao, cap, rfl⟩ | ⟨g, cap, rfl, _⟩
  · exact ⟨_, _, rfl⟩
  · exact ⟨_, _, rfl⟩

theorem ref_bit (v : Value) (n V : Nat) (i : Int) (w : World) (h : BRd w v n V) (hV : V < 2 ^ n) (hn : n ≤ 1099511627776) :
    Calls Tryd.prog 88 #[v, .int .i64 i] w fun e w' => e = .returned (.bool (bitI V i)) ∧ w' = w := by
  obtain ⟨ao, cap, rfl⟩ := h.shape
  by_cases h0 : i < 0
  · rw [show bitI V i = false by simp [bitI]; omega]
    clear h
    go_enter Tryd.func88, Tryd.ntmps88
    go_wp2
    go_ret
    exact ⟨rfl, rfl⟩
  obtain ⟨i, rfl⟩ := Int.eq_ofNat_of_zero_le (show 0 ≤ i by omega)
  by_cases h1 : i < n
  · rw [show bitI V i = V.testBit i by simp [bitI]]
    obtain ⟨g, rfl, hc⟩ : ∃ g, ao = some ⟨g, 0, none⟩ ∧ ∀ j, j < n → w.cell? ⟨g, j, none⟩ = some (.bool (V.testBit j)) := by
      rcases h with ⟨rfl, _⟩ | ⟨g, cap', h, hc⟩
      · omega
      · simp at h; exact ⟨g, h.1, hc⟩
    have hci := hc i h1
    clear h hc h0
    go_enter Tryd.func88, Tryd.ntmps88
    go_wp2
    go_ret
    exact ⟨rfl, rfl⟩
  · rw [show bitI V i = false by simp [bitI]; exact bit_above hV (by omega)]
    clear h h0
    go_enter Tryd.func88, Tryd.ntmps88
    go_wp2
    go_ret
    exact ⟨rfl, rfl⟩

theorem cut_add (V k O P : Nat) (a : Int) (h64 : k < 64) (hb : bitI V (a + k) = true) (hO : O = cutV V a k) (hP : P = 2 ^ k % 18446744073709551616) : IntKind.u64.wrap ((O : Int) + (P : Int)) = ((cutV V a (k + 1) : Nat) : Int) := by
  have hs := cutV_succ V a k
  have hl := cutV_lt V a (k + 1) (by omega)
  unfold bitI at hb
  rw [Bool.and_eq_true, decide_eq_true_eq] at hb
  rw [if_pos hb, ← hO] at hs
  have h2 : 2 ^ k < 18446744073709551616 := Nat.pow_lt_pow_right (by decide) h64
  rw [Nat.mod_eq_of_lt h2] at hP
  rw [wrapU _ (by omega) (by omega)]
  omega
theorem cut_none (V k : Nat) (a : Int) (hb : bitI V (a + k) = false) : cutV V a (k + 1) = cutV V a k := by
  rw [cutV_succ, if_neg (fun h => by simp [bitI, h.1, h.2] at hb), Nat.add_zero]
theorem cut_off (V n k : Nat) (a : Int) (hV : V < 2 ^ n) (h64 : k < 64) (h : ¬ (-63 ≤ a ∧ a < n)) : bitI V (a + k) = false := by
  unfold bitI
  by_cases h1 : 0 ≤ a + k
  · rw [bit_above hV (show n ≤ (a + k).toNat by omega)]; simp
  · simp [h1]

set_option maxHeartbeats 800000 in
theorem ref_cut (v : Value) (n V : Nat) (a m : Int) (w : World) (h : BRd w v n V) (hV : V < 2 ^ n) (hn : n ≤ 1099511627776) (a0 : -9223372036854775808 ≤ a) (a1 : a ≤ 9223372036854775807) :
    Calls Tryd.prog 54 #[v, .int .i64 a, .int .i64 m] w fun e w' => e = .returned (.int .u64 (cutV V a (min 64 m.toNat) : Nat)) ∧ w' = w := by
  obtain ⟨ao, cap, rfl⟩ := h.shape
  obtain ⟨M, hM⟩ : ∃ M, min 64 m.toNat = M := ⟨_, rfl⟩
  rw [hM]
  have HH : Hid _ := And.intro h (And.intro hV hM)
  clear h hV hM
  go_enter Tryd.func54, Tryd.ntmps54
  go_wp2
  go_loop [9, 7, 8] (fun i o p => ∃ k O P : Nat, k ≤ M ∧ i = .int .i64 k ∧ o = .int .u64 O ∧ p = .int .u64 P ∧ Hid (O = cutV V a k) ∧ Hid (P = 2 ^ k % 18446744073709551616)) (fun i _ _ => M - (intOf i).toNat)
  case atStart => exact ⟨0, 0, 1, Nat.zero_le _, rfl, rfl, rfl, Hid.mk (cutV_zero V a).symm, Hid.mk rfl⟩
  case round =>
    obtain ⟨k, O, P, hk, rfl, rfl, rfl, hO, hP⟩ := hrel
    by_cases hkM : k < M
    · have h64 : k < 64 := by have := HH.out.2.2; omega
      have hkm : (k : Int) < m := by have := HH.out.2.2; omega
      have hPl : P < 18446744073709551616 := by have := hP.out; omega
      by_cases hin : -63 ≤ a ∧ a < n
      · obtain ⟨hin1, hin2⟩ := hin
        go_wp2_with (go_at_call 88; refine (ref_bit _ n V _ _ HH.out.1 HH.out.2.1 hn).mono ?_; rintro e w' ⟨rfl, rfl⟩)
        · refine ⟨⟨k + 1, _, _, by omega, by go_num, by rw [cut_add V k O P a h64 (by assumption) hO.out hP.out], by rw [cut_twice k P hP.out], Hid.mk rfl, Hid.mk rfl⟩, by simp [intOf]; omega⟩
        · refine ⟨⟨k + 1, O, _, by omega, by go_num, rfl, by rw [cut_twice k P hP.out], Hid.mk ?_, Hid.mk rfl⟩, by simp [intOf]; omega⟩
          rw [cut_none V k a (by assumption)]; exact hO.out
      · have hb := cut_off V n k a HH.out.2.1 h64 hin
        have HB : Hid _ := hb
        clear hb
        rcases (show a < -63 ∨ (-63 ≤ a ∧ (n : Int) ≤ a) by omega) with hin | ⟨hin, hin2⟩
        all_goals
          go_wp2
          refine ⟨⟨k + 1, O, _, by omega, by go_num, rfl, by rw [cut_twice k P hP.out], Hid.mk ?_, Hid.mk rfl⟩, by simp [intOf]; omega⟩
          rw [cut_none V k a HB.out]; exact hO.out
    · have hkm : ¬ (k : Int) < 64 ∨ ((k : Int) < 64 ∧ ¬ (k : Int) < m) := by have := HH.out.2.2; omega
      obtain rfl : k = M := by omega
      rcases hkm with hkm | ⟨hkm, hkm2⟩
      all_goals
        go_wp2
        go_ret
        rw [← hO.out]
        exact ⟨rfl, rfl⟩

end Go.Proofs.YtbfolfacppbalaaDoor

namespace Go.Proofs.YtbfolfacppbalaaDoor
open Go.RowKit

theorem BRd.more {w w' : World} {v : Value} {n V : Nat} (h : BRd w v n V) (k : More w w') : BRd w' v n V := by
  rcases h with h | ⟨g, cap, rfl, hc⟩
  · exact .inl h
  · exact .inr ⟨g, cap, rfl, fun j hj => (k.cell (p := ⟨g, j, none⟩) (World.block_lt_of_cell? w ⟨g, j, none⟩ (hc j hj))).trans (hc j hj)⟩
theorem Rd.more {w w' : World} {v : Value} {K : Nat} {f : Nat → Nat} (h : Rd w v K f) (k : More w w') : Rd w' v K f := by
  rcases h with h | ⟨g, o, cap, rfl, hg, hc⟩
  · exact .inl h
  · exact .inr ⟨g, o, cap, rfl, Nat.lt_of_lt_of_le hg k.size, fun j hj => (k.cell (p := ⟨g, o + j, none⟩) hg).trans (hc j hj)⟩
theorem Rd.shape {w : World} {v : Value} {K : Nat} {f : Nat → Nat} (h : Rd w v K f) : ∃ ao cap, v = .slice ao K cap := by
  rcases h with ⟨rfl, ao, cap, rfl⟩ | ⟨g, o, cap, rfl, _⟩
  · exact ⟨_, _, rfl⟩
  · exact ⟨_, _, rfl⟩

theorem cut64 (v : Value) (n V k : Nat) (w : World) (h : BRd w v n V) (hV : V < 2 ^ n) (hn : n ≤ 1099511627776) (hk : 64 * k ≤ 1099511627776) :
    Calls Tryd.prog 54 #[v, .int .i64 ((64 * k : Nat) : Int), .int .i64 64] w fun e w' => e = .returned (.int .u64 (wd V k : Nat)) ∧ w' = w := by
  refine (ref_cut v n V ((64 * k : Nat) : Int) 64 w h hV hn (by omega) (by omega)).mono ?_
  rintro e w' ⟨rfl, rfl⟩
  refine ⟨?_, rfl⟩
  rw [show min 64 (Int.toNat 64) = 64 from rfl, cutV_word]

set_option maxRecDepth 1000000 in
theorem ref_words (v : Value) (n V : Nat) (w : World) (h : BRd w v n V) (hV : V < 2 ^ n) (hn : n ≤ 1099511600000) :
    Calls Tryd.prog 21 #[v] w fun e w' => ∃ v', e = .returned v' ∧ w'.ownsRow w.heap.size 77 1 v' (nw n) (u64s (wd V) (nw n)) ∧ More w w' := by
  obtain ⟨i0, hi, hz0, hz1, hz2⟩ := info_parts Tryd.info36
  obtain ⟨ao, cap, rfl⟩ := h.shape
  have HH : Hid _ := And.intro h hV
  clear h hV
  go_enter Tryd.func21, Tryd.ntmps21
  go_wp2
  go_loopw [3, 4] (fun v i wr => ∃ k I : Nat, I ≤ n + 63 ∧ i = .int .i64 I ∧ Hid (I = 64 * k) ∧ Hid (wr.ownsRow w.heap.size 77 1 v k (u64s (wd V) k) ∧ Below w.heap.size w wr)) (fun _ i _ => n + 64 - (intOf i).toNat)
  case atStart => exact ⟨0, 0, Nat.zero_le _, rfl, Hid.mk rfl, Hid.mk ⟨World.ownsRow_nil _ _ _ _, Below.refl _ _⟩⟩
  case round =>
    obtain ⟨k, I, hk, rfl, hI, hown⟩ := hrel
    obtain ⟨ao1, cap1, rfl⟩ := shape_of hown.out.1
    by_cases hkN : I < n
    · have hcut := cut64 (.slice ao n cap) n V k wr (HH.out.1.more hown.out.2) HH.out.2 (by omega) (by have := hI.out; omega)
      rw [← hI.out] at hcut
      have hkl : k ≤ 1099511627776 := by have := hI.out; omega
      go_wp2_with (first
        | (go_at_call 54; refine hcut.mono ?_; rintro e w' ⟨rfl, rfl⟩)
        | (at_builtin; refine wpList_append_own _ rfl (.tmp 11) (.tmp 15) 47 rfl w.heap.size 77 i0 (.int .u64 0) 1 8 Tryd.underlying47 hi hz0 hz1 hz2 rfl (by decide) _ _ _ rfl (hown.out.1.alloc _) ⟨_, 0, none⟩ 1 1 [.int .u64 (wd V k : Nat)] rfl rfl ?c1 ?c2b ?c3b ?c4b ?c5b ?_))
      case c1 => exact one_cell _ _ _
      case c2b => exact one_u64 _
      case c3b => unfold maxLen; omega
      case c4b => omega
      case c5b => have := hown.out.2.size; simp; omega
      intro v2 w2 hown2 hgrow2 _
      rw [← u64s_succ] at hown2
      have hbel2 : Below w.heap.size w w2 := (hown.out.2.alloc hown.out.2.size _).grown hgrow2 (by have := hown.out.2.size; simp; omega) (fun j hj => (hown.out.1.lt j hj).1)
      have HG : Hid _ := And.intro hown2 hbel2
      clear hown2 hbel2 hgrow2 hown hcut
      go_wp2
      refine ⟨⟨k + 1, I + 64, by omega, by go_num, Hid.mk (by have := hI.out; omega), Hid.mk HG.out⟩, by simp [intOf]; omega⟩
    · go_wp2
      have hkn : k = nw n := by have := hI.out; unfold nw; omega
      go_ret
      rw [← hkn]
      exact ⟨_, rfl, hown.out.1, hown.out.2⟩

set_option maxHeartbeats 800000 in
theorem ref_same (a b : Value) (K L : Nat) (f f' : Nat → Nat) (w : World) (h : Rd w a K f) (h' : Rd w b L f') (hK : K ≤ 1099511627776) (hL : L ≤ 1099511627776) :
    Calls Tryd.prog 19 #[a, b] w fun e w' => ∃ r, e = .returned (.bool r) ∧ (r = true ↔ K = L ∧ ∀ j, j < K → f j = f' j) ∧ ∃ m, w' = w.drewN m := by
  by_cases hKL : K = L
  · subst hKL
    by_cases h0 : K = 0
    · obtain ⟨ao, cap, rfl⟩ := h.shape
      obtain ⟨ao', cap', rfl⟩ := h'.shape
      subst h0
      clear h h'
      go_enter Tryd.func19, Tryd.ntmps19
      go_wp2
      refine wp_loop_rounds 1 ?_; rw [rounds_succ]; go_wp2
      go_ret
      exact ⟨_, rfl, by simp, 0, rfl⟩
    · obtain ⟨g, o, cap, rfl, _, hc⟩ : ∃ g o cap, a = .slice (some ⟨g, o, none⟩) K cap ∧ g < w.heap.size ∧ ∀ j, j < K → w.cell? ⟨g, o + j, none⟩ = some (.int .u64 (f j : Nat)) := by
        rcases h with ⟨rfl, _⟩ | h
        · omega
        · exact h
      obtain ⟨g', o', cap', rfl, _, hc'⟩ : ∃ g o cap, b = .slice (some ⟨g, o, none⟩) K cap ∧ g < w.heap.size ∧ ∀ j, j < K → w.cell? ⟨g, o + j, none⟩ = some (.int .u64 (f' j : Nat)) := by
        rcases h' with ⟨rfl, _⟩ | h
        · omega
        · exact h
      have HC : Hid _ := And.intro hc hc'
      clear h h' hc hc'
      go_enter Tryd.func19, Tryd.ntmps19
      go_wp2
      go_loopw [5] (fun i wr => ∃ k : Nat, k ≤ K ∧ i = .int .i64 k ∧ (∃ m, wr = w.drewN m) ∧ Hid (∀ j, j < k → f j = f' j)) (fun i _ => K - (intOf i).toNat)
      case atStart => exact ⟨0, Nat.zero_le _, rfl, ⟨0, rfl⟩, Hid.mk fun j hj => by omega⟩
      case round =>
        obtain ⟨k, hk, rfl, ⟨m, rfl⟩, hw⟩ := hrel
        have hck : k < K → w.cell? ⟨g, o + k, none⟩ = some (.int .u64 (f k : Nat)) := HC.out.1 k
        have hck' : k < K → w.cell? ⟨g', o' + k, none⟩ = some (.int .u64 (f' k : Nat)) := HC.out.2 k
        by_cases hkK : k < K
        · go_wp2_with fail
          go_quiet (fail)
          go_wp2
          · rename_i hne
            go_ret
            refine ⟨_, rfl, ?_, m + nq, by simp⟩
            simp only [Bool.false_eq_true, false_iff]
            intro hh
            rw [hh.2 k hkK] at hne
            simp at hne
          · rename_i heq
            have heq : f k = f' k := by have h2 : ((f k : Nat) : Int) = ((f' k : Nat) : Int) := by simpa using heq
                                        omega
            refine ⟨⟨k + 1, by omega, by go_num, ⟨_, rfl⟩, Hid.mk fun j hj => ?_⟩, by simp [intOf]; omega⟩
            rcases (show j < k ∨ j = k by omega) with h | rfl
            · exact hw.out j h
            · exact heq
        · go_wp2
          go_ret
          refine ⟨_, rfl, ?_, m, rfl⟩
          exact ⟨fun _ => ⟨by trivial, fun j hj => hw.out j (by omega)⟩, fun _ => by trivial⟩
  · have hne : ((K : Int) != (L : Int)) = true := by simp; omega
    obtain ⟨ao, cap, rfl⟩ := h.shape
    obtain ⟨ao', cap', rfl⟩ := h'.shape
    clear h h'
    go_enter Tryd.func19, Tryd.ntmps19
    go_wp2
    go_ret
    exact ⟨_, rfl, by simp [hKL], 0, rfl⟩

theorem rk_succ (V k : Nat) : rk V (k + 1) = rk V k + (if V.testBit k = true then 1 else 0) := by
  have := rk_add V k 1
  rw [this]
  congr 1
  rw [bit_eq]
  simp [rk]
  split <;> omega

theorem nw_nw (n : Nat) : nw (64 * nw n) = nw n := by unfold nw; omega

/-- Words are those of a row of n bits just if there are as many as can be, and none is too great. -/
theorem of_iff (f : Nat → Nat) (n K : Nat) (hf : ∀ j, j < K → f j < 18446744073709551616) : (nw n = K ∧ ∀ j, j < nw n → wd (ofW f K % 2 ^ n) j = f j) ↔ (K = nw n ∧ ofW f K < 2 ^ n) := by
  constructor
  · rintro ⟨rfl, h⟩
    refine ⟨rfl, ?_⟩
    have h1 := ofW_lt f (nw n) hf
    have h2 : ofW f (nw n) % 2 ^ n < 2 ^ n := Nat.mod_lt _ (Nat.two_pow_pos n)
    have h3 : 2 ^ n ≤ 2 ^ (64 * nw n) := Nat.pow_le_pow_right (by decide) (by unfold nw; omega)
    have h4 := eq_of_words (n := 64 * nw n) (V := ofW f (nw n) % 2 ^ n) (W := ofW f (nw n)) (by omega) h1 (fun j hj => by
      have e : nw (64 * nw n) = nw n := nw_nw n
      have hj' : j < nw n := by omega
      rw [h j hj', ofW_wd f _ hf j hj'])
    omega
  · rintro ⟨rfl, h⟩
    refine ⟨rfl, fun j hj => ?_⟩
    rw [Nat.mod_eq_of_lt h, ofW_wd f _ hf j hj]

end Go.Proofs.YtbfolfacppbalaaDoor
