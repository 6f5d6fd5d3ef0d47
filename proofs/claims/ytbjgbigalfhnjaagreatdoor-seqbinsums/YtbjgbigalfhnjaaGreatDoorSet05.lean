/-
  The document's own answers: bits as elements: Add, May, Bit, Cut.
  The document's own answers: Words, Same, Ones, Next, Of.
  rankdir's New: the directory of a row.
-/
import Derived.Test.YtbjgbigalfhnjaaGreatDoorSet04
import Derived.Laws.AppendOwnNone
namespace Go.Proofs.YtbjgbigalfhnjaaGreatDoor
open Go.RowKit

/-- The cells of the n lowest bits of V. -/
def bools (V n : Nat) : List Value := (List.range n).map fun i => Value.bool (V.testBit i)
theorem bools_len (V n : Nat) : (bools V n).length = n := by simp [bools]
theorem bools_get (V n i : Nat) (h : i < n) : (bools V n)[i]? = some (.bool (V.testBit i)) := by simp [bools, h]
theorem bools_succ (V n : Nat) : bools V (n + 1) = bools V n ++ [.bool (V.testBit n)] := by simp [bools, List.range_succ]
theorem bools_congr {V U n : Nat} (h : ∀ i, i < n → V.testBit i = U.testBit i) : bools V n = bools U n := by
  unfold bools
  apply List.map_congr_left
  intro i hi
  rw [h i (by simpa using hi)]

/-- What is appended is nil, or lies somewhere. -/
theorem wpList_append_from {P : Program} (w : World) {ops : Array Oper} {rest : List Oper} {o : Oper} {a : Act} {Q : Exit → Act → World → Prop} (hgd : o.guard = none) (s x : Operand) (t : TypeId)
    (ho : o.op = .call { callee := .builtin .append, args := #[s, x], argTypes := #[t, t] })
    (base : Nat) (e : TypeId) (i : TypeInfo) (z : Value) (size bytes : Nat) (ht : P.underlying t = some (.slice e)) (hi : P.info? e = some i) (hz : i.zero = some z)
    (hsize : i.size = size) (hby : i.bytes = bytes) (hzs : z.cells.size = size) (hsz : 0 < size)
    (v : Value) (n : Nat) (xs : List Value) (hs : a.eval s = v) (hown : w.ownsRow base e size v n xs)
    (vs : Value) (m : Nat) (news : List Value) (hx : a.eval x = vs) (hl : news.length = m * size)
    (hsrc : (vs = .slice none 0 0 ∧ m = 0) ∨ ∃ ad c, vs = .slice (some ad) m c ∧ ∀ j u, news[j]? = some u → w.cell? (ad.add j) = some u) (h1 : ∀ u ∈ news, u.oneCell' = true)
    (h63 : n + m ≤ maxLen) (hbytes : (n + m) * bytes ≤ 140737488355328) (hbase : base ≤ w.heap.size)
    (h : ∀ v' w', w'.ownsRow base e size v' (n + m) (xs ++ news) → w.grownBy w' v.ownBlock → wpList P ops Q rest (a.put o.dst v') w') : wpList P ops Q (o :: rest) a w := by
  rcases hsrc with ⟨rfl, rfl⟩ | ⟨ad, c, rfl, hc⟩
  · obtain rfl : news = [] := List.eq_nil_of_length_eq_zero (by simpa using hl)
    refine wpList_append_own_none hgd s x t ho base e i size ht hi v n xs hs hown hx (h v w (by simpa using hown) ⟨rfl, rfl, rfl, Nat.le_refl _, fun _ _ _ => rfl⟩)
  · exact wpList_append_own w hgd s x t ho base e i z size bytes ht hi hz hsize hby hzs hsz v n xs hs hown ad m c news hx hl hc h1 h63 hbytes hbase fun v' w' h2 h3 _ => h v' w' h2 h3

theorem Tryz.info4 : (Tryz.prog.info? 4).map (fun i => (i.zero, i.size, i.bytes)) = some (some (.bool false), 1, 1) := by kernel_rfl

theorem one_cell (w : World) (v : Value) (e : TypeId) : ∀ (j : Nat) u, [v][j]? = some u → (w.alloc (.cells #[v] e)).cell? ((⟨w.heap.size, 0, none⟩ : Addr).add j) = some u := by
  intro j u hj
  match j, hj with
  | 0, hj => simp at hj; subst hj; simp [Addr.add]
theorem one_bool (b : Bool) : ∀ u ∈ [Value.bool b], u.oneCell' = true := by intro u hu; simp at hu; subst hu; rfl
theorem one_u64 (z : Int) : ∀ u ∈ [Value.int .u64 z], u.oneCell' = true := by intro u hu; simp at hu; subst hu; rfl

/-- A world that has new blocks, and else is as it was. -/
abbrev More (w w' : World) : Prop := Below w.heap.size w w'
theorem More.trans {a b c : World} (h : More a b) (k : More b c) : More a c := Below.trans h (k.mono h.size)
theorem More.own {w w' : World} {base : Nat} {e : TypeId} {size : Nat} {v : Value} {n : Nat} {xs : List Value} (h : w.ownsRow base e size v n xs) (k : More w w') : w'.ownsRow base e size v n xs :=
  h.kept (row := none) ⟨k.os, k.tape, k.output, k.size, fun i hi _ => k.block i hi⟩ (by cases v.ownBlock <;> simp)
theorem More.row {w w' : World} {base b V n : Nat} (h : RowAt w base b V n) (k : More w w') : RowAt w' base b V n := by
  obtain ⟨v, hb, hown⟩ := h.mem
  exact ⟨h.lo, h.fit, h.len, v, by rw [k.block b (lt_of_block hb)]; exact hb, k.own hown⟩
theorem More.tab {w w' : World} (h : TabIn w) (k : More w w') : TabIn w' := by
  have h0 : 0 < w.heap.size := World.block_lt_of_cell? w ⟨0, 0, none⟩ (h 0 (by omega))
  exact h.below k h0
theorem More.drewN (w : World) (m : Nat) : More w (w.drewN m) := ⟨rfl, rfl, rfl, Nat.le_refl _, fun _ _ => rfl⟩

set_option maxRecDepth 1000000 in
theorem ref_add (base n V x N : Nat) (v : Value) (w : World) (hown : w.ownsRow base 4 1 v n (bools V n)) (hV : V < 2 ^ n) (hx : x < 18446744073709551616) (hn : n ≤ 1099511627776) (hN : N ≤ 64) :
    Calls Tryz.prog 63 #[v, .int .u64 x, .int .i64 N] w fun e w' => ∃ v', e = .returned v' ∧ w'.ownsRow w.heap.size 4 1 v' (n + N) (bools (cat V n x) (n + N)) ∧ More w w' := by
  obtain ⟨i0, hi, hz0, hz1, hz2⟩ := info_parts Tryz.info4
  have he : (w.alloc (.cells #[] 4)).ownsRow w.heap.size 4 1 (.slice (some ⟨w.heap.size, 0, none⟩) 0 0) 0 [] := World.ownsRow_lit w #[] 0 (Nat.le_refl _) (by decide) rfl
  have hsrc : (v = .slice none 0 0 ∧ n = 0) ∨ ∃ ad c, v = .slice (some ad) n c ∧ ∀ j u, (bools V n)[j]? = some u → (w.alloc (.cells #[] 4)).cell? (ad.add j) = some u := by
    rcases hown.2 with h | ⟨g, cap, cur, rfl, _, hg, _⟩
    · exact .inl h
    · refine .inr ⟨_, _, rfl, fun j u hu => ?_⟩
      have hj : j < n := by have := (List.getElem?_eq_some_iff.1 hu).1; simpa [bools_len] using this
      rw [Addr.add_lit, World.cell?_alloc_past _ _ _ (lt_of_block hg), Nat.zero_add, hown.cellAt j (by omega), hu]
  have HE : Hid _ := And.intro he (And.intro hsrc (And.intro hV hown))
  obtain ⟨ao, cap, rfl⟩ := shape_of hown
  clear he hsrc hV hown
  go_enter Tryz.func63, Tryz.ntmps63
  go_wp2_with (at_builtin; refine wpList_append_from _ rfl (.tmp 9) (.tmp 10) 70 rfl w.heap.size 4 i0 (.bool false) 1 1 Tryz.underlying70 hi hz0 hz1 hz2 rfl (by decide) _ _ _ rfl HE.out.1 _ n (bools V n) rfl (by rw [bools_len, Nat.mul_one]) HE.out.2.1 ?c2 ?c3 ?c4 ?c5 ?_)
  case c2 => intro y hy; simp [bools] at hy; obtain ⟨_, _, rfl⟩ := hy; rfl
  case c3 => unfold maxLen; omega
  case c4 => omega
  case c5 => simp
  intro v0 w1 hown0 hgrow0
  have hbel0 : Below w.heap.size w w1 := ((Below.refl _ w).alloc (Nat.le_refl _) (.cells #[] 4)).grown hgrow0 (by simp) (fun k hk => by simp [Value.ownBlock] at hk; omega)
  have hV := HE.out.2.2.1
  rw [bools_congr (U := cat V n x) (fun i hi => by rw [cat_bit x hV, if_pos hi])] at hown0
  have HF : Hid _ := And.intro hown0 (And.intro hbel0 hV)
  clear hown0 hgrow0 hbel0 HE hV
  go_wp2
  go_loopw [7, 8] (fun v i wr => ∃ k : Nat, k ≤ N ∧ i = .int .i64 k ∧ Hid (wr.ownsRow w.heap.size 4 1 v (n + k) (bools (cat V n x) (n + k)) ∧ Below w.heap.size w wr)) (fun _ i _ => N - (intOf i).toNat)
  case atStart => exact ⟨0, Nat.zero_le _, rfl, Hid.mk ⟨HF.out.1, HF.out.2.1⟩⟩
  case round =>
    obtain ⟨k, hk, rfl, hown⟩ := hrel
    obtain ⟨ao1, cap1, rfl⟩ := shape_of hown.out.1
    by_cases hkN : k < N
    · have hlast : Hid (bools (cat V n x) (n + k) ++ [.bool (btI x k)] = bools (cat V n x) (n + k + 1)) := by
        show _ = _
        rw [bools_succ, cat_bit x HF.out.2.2, if_neg (by omega), show n + k - n = k by omega]
        have : btI x k = x.testBit k := by
          rw [bit_eq]; simp [btI]; omega
        rw [this]
      go_wp2_with (first
        | (go_at_call 66; refine (ref_Bit x hx k _).mono ?_; rintro e w' ⟨rfl, rfl⟩)
        | (at_builtin; refine wpList_append_own _ rfl (.tmp 17) (.tmp 21) 70 rfl w.heap.size 4 i0 (.bool false) 1 1 Tryz.underlying70 hi hz0 hz1 hz2 rfl (by decide) _ _ _ rfl (hown.out.1.alloc _) ⟨_, 0, none⟩ 1 1 [.bool (btI x k)] rfl rfl ?c1 ?c2b ?c3b ?c4b ?c5b ?_))
      case c1 => exact one_cell _ _ _
      case c2b => exact one_bool _
      case c3b => unfold maxLen; omega
      case c4b => omega
      case c5b => have := hown.out.2.size; simp; omega
      intro v2 w2 hown2 hgrow2 _
      rw [hlast.out] at hown2
      have hbel2 : Below w.heap.size w w2 := (hown.out.2.alloc hown.out.2.size _).grown hgrow2 (by have := hown.out.2.size; simp; omega) (fun j hj => (hown.out.1.lt j hj).1)
      have HG : Hid _ := And.intro hown2 hbel2
      clear hown2 hbel2 hgrow2 hown
      go_wp2
      refine ⟨⟨k + 1, by omega, by go_num, Hid.mk HG.out⟩, by simp [intOf]; omega⟩
    · go_wp2
      obtain rfl : k = N := by omega
      go_ret
      exact ⟨_, rfl, hown.out.1, hown.out.2⟩

/-- A slice of n bits is read. -/
def BRd (w : World) (v : Value) (n V : Nat) : Prop :=
  (n = 0 ∧ ∃ ao cap, v = .slice ao 0 cap) ∨ ∃ g cap, v = .slice (some ⟨g, 0, none⟩) n cap ∧ ∀ j, j < n → w.cell? ⟨g, j, none⟩ = some (.bool (V.testBit j))
theorem brd_of_own {w : World} {base : Nat} {v : Value} {n V : Nat} (h : w.ownsRow base 4 1 v n (bools V n)) : BRd w v n V := by
  rcases h.2 with ⟨rfl, hn⟩ | ⟨g, cap, cur, rfl, _, hg, _⟩
  · exact .inl ⟨hn, _, _, rfl⟩
  · exact .inr ⟨g, cap, rfl, fun j hj => by rw [h.cellAt j (by omega), bools_get _ _ _ hj]⟩
theorem BRd.shape {w : World} {v : Value} {n V : Nat} (h : BRd w v n V) : ∃ ao cap, v = .slice ao n cap := by
  rcases h with ⟨rfl, ao, cap, rfl⟩ | ⟨g, cap, rfl, _⟩
  · exact ⟨_, _, rfl⟩
  · exact ⟨_, _, rfl⟩

theorem ref_bit (v : Value) (n V : Nat) (i : Int) (w : World) (h : BRd w v n V) (hV : V < 2 ^ n) (hn : n ≤ 1099511627776) :
    Calls Tryz.prog 67 #[v, .int .i64 i] w fun e w' => e = .returned (.bool (bitI V i)) ∧ w' = w := by
  obtain ⟨ao, cap, rfl⟩ := h.shape
  by_cases h0 : i < 0
  · rw [show bitI V i = false by simp [bitI]; omega]
    clear h
    go_enter Tryz.func67, Tryz.ntmps67
    go_wp2
    go_ret
    exact ⟨rfl, rfl⟩
  obtain ⟨i, rfl⟩ := Int.eq_ofNat_of_zero_le (show 0 ≤ i by omega)
  by_cases h1 : i < n
  · rw [show bitI V i = V.testBit i by simp [bitI]]
    obtain ⟨g, rfl, hc⟩ : ∃ g, ao = some ⟨g, 0, none⟩ ∧ ∀ j, j < n → w.cell? ⟨g, j, none⟩ = some (.bool (V.testBit j)) := by
      rcases h with ⟨rfl, _⟩ | ⟨g, cap', h, hc⟩
      · omega
      · simp at h; exact ⟨g, h.1, hc⟩
    have hci := hc i h1
    clear h hc h0
    go_enter Tryz.func67, Tryz.ntmps67
    go_wp2
    go_ret
    exact ⟨rfl, rfl⟩
  · rw [show bitI V i = false by simp [bitI]; exact bit_above hV (by omega)]
    clear h h0
    go_enter Tryz.func67, Tryz.ntmps67
    go_wp2
    go_ret
    exact ⟨rfl, rfl⟩

theorem cut_add (V k O P : Nat) (a : Int) (h64 : k < 64) (hb : bitI V (a + k) = true) (hO : O = cutV V a k) (hP : P = 2 ^ k % 18446744073709551616) : IntKind.u64.wrap ((O : Int) + (P : Int)) = ((cutV V a (k + 1) : Nat) : Int) := by
  have hs := cutV_succ V a k
  have hl := cutV_lt V a (k + 1) (by omega)
  unfold bitI at hb
  rw [Bool.and_eq_true, decide_eq_true_eq] at hb
  rw [if_pos hb, ← hO] at hs
  have h2 : 2 ^ k < 18446744073709551616 := Nat.pow_lt_pow_right (by decide) h64
  rw [Nat.mod_eq_of_lt h2] at hP
  rw [wrapU _ (by omega) (by omega)]
  omega
theorem cut_none (V k : Nat) (a : Int) (hb : bitI V (a + k) = false) : cutV V a (k + 1) = cutV V a k := by
  rw [cutV_succ, if_neg (fun h => by simp [bitI, h.1, h.2] at hb), Nat.add_zero]
theorem cut_off (V n k : Nat) (a : Int) (hV : V < 2 ^ n) (h64 : k < 64) (h : ¬ (-63 ≤ a ∧ a < n)) : bitI V (a + k) = false := by
  unfold bitI
  by_cases h1 : 0 ≤ a + k
  · rw [bit_above hV (show n ≤ (a + k).toNat by omega)]; simp
  · simp [h1]

set_option maxHeartbeats 800000 in
theorem ref_cut (v : Value) (n V : Nat) (a m : Int) (w : World) (h : BRd w v n V) (hV : V < 2 ^ n) (hn : n ≤ 1099511627776) (a0 : -9223372036854775808 ≤ a) (a1 : a ≤ 9223372036854775807) :
    Calls Tryz.prog 37 #[v, .int .i64 a, .int .i64 m] w fun e w' => e = .returned (.int .u64 (cutV V a (min 64 m.toNat) : Nat)) ∧ w' = w := by
  obtain ⟨ao, cap, rfl⟩ := h.shape
  obtain ⟨M, hM⟩ : ∃ M, min 64 m.toNat = M := ⟨_, rfl⟩
  rw [hM]
  have HH : Hid _ := And.intro h (And.intro hV hM)
  clear h hV hM
  go_enter Tryz.func37, Tryz.ntmps37
  go_wp2
  go_loop [9, 7, 8] (fun i o p => ∃ k O P : Nat, k ≤ M ∧ i = .int .i64 k ∧ o = .int .u64 O ∧ p = .int .u64 P ∧ Hid (O = cutV V a k) ∧ Hid (P = 2 ^ k % 18446744073709551616)) (fun i _ _ => M - (intOf i).toNat)
  case atStart => exact ⟨0, 0, 1, Nat.zero_le _, rfl, rfl, rfl, Hid.mk (cutV_zero V a).symm, Hid.mk rfl⟩
  case round =>
    obtain ⟨k, O, P, hk, rfl, rfl, rfl, hO, hP⟩ := hrel
    by_cases hkM : k < M
    · have h64 : k < 64 := by have := HH.out.2.2; omega
      have hkm : (k : Int) < m := by have := HH.out.2.2; omega
      have hPl : P < 18446744073709551616 := by have := hP.out; omega
      by_cases hin : -63 ≤ a ∧ a < n
      · obtain ⟨hin1, hin2⟩ := hin
        go_wp2_with (go_at_call 67; refine (ref_bit _ n V _ _ HH.out.1 HH.out.2.1 hn).mono ?_; rintro e w' ⟨rfl, rfl⟩)
        · refine ⟨⟨k + 1, _, _, by omega, by go_num, by rw [cut_add V k O P a h64 (by assumption) hO.out hP.out], by rw [cut_twice k P hP.out], Hid.mk rfl, Hid.mk rfl⟩, by simp [intOf]; omega⟩
        · refine ⟨⟨k + 1, O, _, by omega, by go_num, rfl, by rw [cut_twice k P hP.out], Hid.mk ?_, Hid.mk rfl⟩, by simp [intOf]; omega⟩
          rw [cut_none V k a (by assumption)]; exact hO.out
      · have hb := cut_off V n k a HH.out.2.1 h64 hin
        have HB : Hid _ := hb
        clear hb
        rcases (show a < -63 ∨ (-63 ≤ a ∧ (n : Int) ≤ a) by omega) with hin | ⟨hin, hin2⟩
        all_goals
          go_wp2
          refine ⟨⟨k + 1, O, _, by omega, by go_num, rfl, by rw [cut_twice k P hP.out], Hid.mk ?_, Hid.mk rfl⟩, by simp [intOf]; omega⟩
          rw [cut_none V k a HB.out]; exact hO.out
    · have hkm : ¬ (k : Int) < 64 ∨ ((k : Int) < 64 ∧ ¬ (k : Int) < m) := by have := HH.out.2.2; omega
      obtain rfl : k = M := by omega
      rcases hkm with hkm | ⟨hkm, hkm2⟩
      all_goals
        go_wp2
        go_ret
        rw [← hO.out]
        exact ⟨rfl, rfl⟩

end Go.Proofs.YtbjgbigalfhnjaaGreatDoor

namespace Go.Proofs.YtbjgbigalfhnjaaGreatDoor
open Go.RowKit

theorem BRd.more {w w' : World} {v : Value} {n V : Nat} (h : BRd w v n V) (k : More w w') : BRd w' v n V := by
  rcases h with h | ⟨g, cap, rfl, hc⟩
  · exact .inl h
  · exact .inr ⟨g, cap, rfl, fun j hj => (k.cell (p := ⟨g, j, none⟩) (World.block_lt_of_cell? w ⟨g, j, none⟩ (hc j hj))).trans (hc j hj)⟩
theorem Rd.more {w w' : World} {v : Value} {K : Nat} {f : Nat → Nat} (h : Rd w v K f) (k : More w w') : Rd w' v K f := by
  rcases h with h | ⟨g, o, cap, rfl, hg, hc⟩
  · exact .inl h
  · exact .inr ⟨g, o, cap, rfl, Nat.lt_of_lt_of_le hg k.size, fun j hj => (k.cell (p := ⟨g, o + j, none⟩) hg).trans (hc j hj)⟩
theorem Rd.shape {w : World} {v : Value} {K : Nat} {f : Nat → Nat} (h : Rd w v K f) : ∃ ao cap, v = .slice ao K cap := by
  rcases h with ⟨rfl, ao, cap, rfl⟩ | ⟨g, o, cap, rfl, _⟩
  · exact ⟨_, _, rfl⟩
  · exact ⟨_, _, rfl⟩

theorem cut64 (v : Value) (n V k : Nat) (w : World) (h : BRd w v n V) (hV : V < 2 ^ n) (hn : n ≤ 1099511627776) (hk : 64 * k ≤ 1099511627776) :
    Calls Tryz.prog 37 #[v, .int .i64 ((64 * k : Nat) : Int), .int .i64 64] w fun e w' => e = .returned (.int .u64 (wd V k : Nat)) ∧ w' = w := by
  refine (ref_cut v n V ((64 * k : Nat) : Int) 64 w h hV hn (by omega) (by omega)).mono ?_
  rintro e w' ⟨rfl, rfl⟩
  refine ⟨?_, rfl⟩
  rw [show min 64 (Int.toNat 64) = 64 from rfl, cutV_word]

theorem rk_succ (V k : Nat) : rk V (k + 1) = rk V k + (if V.testBit k = true then 1 else 0) := by
  have := rk_add V k 1
  rw [this]
  congr 1
  rw [bit_eq]
  simp [rk]
  split <;> omega

theorem nw_nw (n : Nat) : nw (64 * nw n) = nw n := by unfold nw; omega

/-- Words are those of a row of n bits just if there are as many as can be, and none is too great. -/
theorem of_iff (f : Nat → Nat) (n K : Nat) (hf : ∀ j, j < K → f j < 18446744073709551616) : (nw n = K ∧ ∀ j, j < nw n → wd (ofW f K % 2 ^ n) j = f j) ↔ (K = nw n ∧ ofW f K < 2 ^ n) := by
  constructor
  · rintro ⟨rfl, h⟩
    refine ⟨rfl, ?_⟩
    have h1 := ofW_lt f (nw n) hf
    have h2 : ofW f (nw n) % 2 ^ n < 2 ^ n := Nat.mod_lt _ (Nat.two_pow_pos n)
    have h3 : 2 ^ n ≤ 2 ^ (64 * nw n) := Nat.pow_le_pow_right (by decide) (by unfold nw; omega)
    have h4 := eq_of_words (n := 64 * nw n) (V := ofW f (nw n) % 2 ^ n) (W := ofW f (nw n)) (by omega) h1 (fun j hj => by
      have e : nw (64 * nw n) = nw n := nw_nw n
      have hj' : j < nw n := by omega
      rw [h j hj', ofW_wd f _ hf j hj'])
    omega
  · rintro ⟨rfl, h⟩
    refine ⟨rfl, fun j hj => ?_⟩
    rw [Nat.mod_eq_of_lt h, ofW_wd f _ hf j hj]

end Go.Proofs.YtbjgbigalfhnjaaGreatDoor

namespace Go.Proofs.YtbjgbigalfhnjaaGreatDoor
open Go.RowKit

/-- The cells of K ints. -/
def ints (f : Nat → Nat) (K : Nat) : List Value := (List.range K).map fun i => Value.int .i64 (f i : Nat)
theorem ints_len (f : Nat → Nat) (K : Nat) : (ints f K).length = K := by simp [ints]
theorem ints_get (f : Nat → Nat) (K i : Nat) (h : i < K) : (ints f K)[i]? = some (.int .i64 (f i : Nat)) := by simp [ints, h]
theorem ints_succ (f : Nat → Nat) (K : Nat) : ints f (K + 1) = ints f K ++ [.int .i64 (f K : Nat)] := by simp [ints, List.range_succ]
theorem ints_congr {f g : Nat → Nat} {K : Nat} (h : ∀ i, i < K → f i = g i) : ints f K = ints g K := by
  unfold ints
  apply List.map_congr_left
  intro i hi
  rw [h i (by simpa using hi)]

/-- How many spans begin in n bits. -/
def nm (n : Nat) : Nat := (nw n + 7) / 8
/-- The mark i of a row. -/
def mk (V n i : Nat) : Nat := rk V (min (512 * i) n)
theorem mk_below (V n i : Nat) (h : i < nm n) : mk V n i = rk V (512 * i) := by
  unfold mk; rw [Nat.min_eq_left (by unfold nm nw at h; omega)]
theorem mk_last (V n : Nat) : mk V n (nm n) = rk V n := by
  unfold mk; rw [Nat.min_eq_right (by unfold nm nw; omega)]
theorem mk_span (V n j : Nat) (h : j ≤ n) : mk V n (j / 512) = rk V (512 * (j / 512)) := by
  unfold mk; rw [Nat.min_eq_left (by omega)]
theorem mk_all (V n : Nat) : ints (fun i => rk V (512 * i)) (nm n) ++ [.int .i64 (rk V n : Nat)] = ints (mk V n) (nm n + 1) := by
  rw [ints_succ, mk_last, ints_congr (f := mk V n) (g := fun i => rk V (512 * i)) fun i hi => mk_below V n i hi]

theorem cells3 {w : World} {b : Nat} {u v x : Value} {t : TypeId} (h : w.heap[b]? = some (.cells #[u, v, x] t (0, 0))) :
    w.cell? ⟨b, 0, none⟩ = some u ∧ w.cell? ⟨b, 1, none⟩ = some v ∧ w.cell? ⟨b, 2, none⟩ = some x ∧ w.frozen? ⟨b, 1, none⟩ = false := by
  simp [World.cell?, World.frozen?, h]
theorem set3_1 {w : World} {b : Nat} {u v x y : Value} {t : TypeId} (h : w.heap[b]? = some (.cells #[u, v, x] t (0, 0))) : (w.setCell ⟨b, 1, none⟩ y).heap[b]? = some (.cells #[u, y, x] t (0, 0)) := by
  simpa using heap_setCell_same w b 1 #[u, v, x] t y h

/-- Rows of different kinds lie apart. -/
theorem own_apart {w : World} {base n n' : Nat} {v v' : Value} {xs ys : List Value} {e e' : TypeId} (h : w.ownsRow base e 1 v n xs) (h' : w.ownsRow base e' 1 v' n' ys) (hne : e ≠ e') : v.ownBlock = none ∨ v.ownBlock ≠ v'.ownBlock := by
  rcases h.2 with ⟨rfl, _⟩ | ⟨g, cap, cur, rfl, _, hg, _⟩
  · exact .inl rfl
  · right
    intro he
    have := own_ne hg h' hne
    simp only [Value.ownBlock] at he this
    exact this he.symm

/-- The directory of a row lies at block d, from block 'base' on: so are its marks so far. -/
structure DirMem (w : World) (base d n K : Nat) (v : Value) (xs : List Value) (L : Nat) (ys : List Value) : Prop where
  lo : base ≤ d
  mem : ∃ m, w.heap[d]? = some (.cells #[v, m, .int .i64 n] 126 (0, 0)) ∧ w.ownsRow base 68 1 v K xs ∧ w.ownsRow base 3 1 m L ys

theorem dir_grow {w w3 w4 : World} {base d K L n n' : Nat} {v m m' : Value} {xs ys ys' : List Value} {o : Obj} (hk : Below base w w3) (hb : w3.heap[d]? = some (.cells #[v, m, .int .i64 n] 126 (0, 0))) (hlo : base ≤ d) (hsz : base ≤ w3.heap.size)
    (hv : w3.ownsRow base 68 1 v K xs) (hm : w3.ownsRow base 3 1 m L ys) (hm4 : w4.ownsRow base 3 1 m' n' ys') (hg : (w3.alloc o).grownBy w4 m.ownBlock) :
    w4.heap[d]? = some (.cells #[v, m, .int .i64 n] 126 (0, 0)) ∧ w4.ownsRow base 68 1 v K xs ∧ DirMem (w4.setCell ⟨d, 1, none⟩ m') base d n K v xs n' ys' ∧ Below base w (w4.setCell ⟨d, 1, none⟩ m') := by
  have hlt := lt_of_block hb
  have ha : (w3.alloc o).heap[d]? = some (.cells #[v, m, .int .i64 n] 126 (0, 0)) := by rw [Below.heap_alloc _ _ _ hlt]; exact hb
  have h4 : w4.heap[d]? = some (.cells #[v, m, .int .i64 n] 126 (0, 0)) := by
    rw [hg.block d (lt_of_block ha) (Ne.symm (own_ne hb hm (by decide)))]; exact ha
  have hv4 : w4.ownsRow base 68 1 v K xs := (hv.alloc o).kept hg (own_apart hv hm (by decide))
  have hka : Below base w (w3.alloc o) := hk.alloc hsz o
  have hk4 : Below base w w4 := hka.grown hg (by simp; omega) (fun k hk => (hm.lt k hk).1)
  exact ⟨h4, hv4, ⟨hlo, _, set3_1 h4, ownsRow_setCell_other hv4 (own_ne h4 hv4 (by decide)) _, ownsRow_setCell_other hm4 (own_ne h4 hm4 (by decide)) _⟩, hk4.setCell (p := ⟨d, 1, none⟩) hlo _⟩

/-- The directory of the n bits of V lies at block d, from block 'base' on. -/
structure DirAt (w : World) (base d V n : Nat) : Prop where
  fit : V < 2 ^ n
  len : n ≤ 1099511627776
  mem : ∃ v, DirMem w base d n (nw n) v (u64s (wd V) (nw n)) (nm n + 1) (ints (mk V n) (nm n + 1))

/-- What New reads of a row, or of nil. -/
structure RowOr (w : World) (p : Value) (V n : Nat) : Prop where
  fit : V < 2 ^ n
  len : n ≤ 1099511627776
  words : Calls Tryz.prog 73 #[p] w fun e w' => ∃ v', e = .returned v' ∧ w'.ownsRow w.heap.size 68 1 v' (nw n) (u64s (wd V) (nw n)) ∧ More w w'
  lenAt : ∀ w', More w w' → Calls Tryz.prog 41 #[p] w' fun e w'' => e = .returned (.int .i64 n) ∧ w'' = w'

theorem RowOr.row {w : World} {base b V n : Nat} (h : RowAt w base b V n) : RowOr w (.pointer (some ⟨b, 0, none⟩)) V n :=
  ⟨h.fit, h.len, (row_words base b V n w h).mono fun _ _ ⟨v', he, ho, hk⟩ => ⟨v', he, ho, hk.below⟩, fun w' hm => row_len b n w' (hm.row h).rd.c1⟩
theorem RowOr.none (w : World) : RowOr w (.pointer none) 0 0 :=
  ⟨by decide, by decide, (nil_words w).mono fun _ _ ⟨he, hw⟩ => ⟨_, he, by rw [hw]; exact World.ownsRow_nil _ _ _ _, by rw [hw]; exact Below.refl _ _⟩, fun w' _ => nil_len w'⟩

theorem Tryz.infoInt : (Tryz.prog.info? 3).map (fun i => (i.zero, i.size, i.bytes)) = some (some (.int .i64 0), 1, 8) := by kernel_rfl
theorem one_i64 (z : Int) : ∀ u ∈ [Value.int .i64 z], u.oneCell' = true := by intro u hu; simp at hu; subst hu; rfl

theorem marks_step (V k : Nat) (h : k % 8 = 0) : ints (fun i => rk V (512 * i)) ((k + 7) / 8) ++ [.int .i64 (rk V (64 * k) : Nat)] = ints (fun i => rk V (512 * i)) ((k + 1 + 7) / 8) := by
  rw [show (k + 1 + 7) / 8 = (k + 7) / 8 + 1 by omega, ints_succ, show 512 * ((k + 7) / 8) = 64 * k by omega]

set_option maxHeartbeats 800000 in
set_option maxRecDepth 1000000 in
theorem dir_new (p : Value) (V n : Nat) (w : World) (h : RowOr w p V n) :
    Calls Tryz.prog 78 #[p] w fun e w' => ∃ d, e = .returned (.pointer (some ⟨d, 0, none⟩)) ∧ DirAt w' w.heap.size d V n ∧ More w w' := by
  obtain ⟨i0, hi, hz0, hz1, hz2⟩ := info_parts Tryz.infoInt
  obtain ⟨hfit, hlen, hw, hl⟩ := h
  obtain ⟨K, hK⟩ : ∃ K, nw n = K := ⟨_, rfl⟩
  have hKb : 64 * K ≤ 1099511627840 := by unfold nw at hK; omega
  rw [hK] at hw
  have HH : Hid _ := And.intro hfit (And.intro hlen hK)
  clear hfit hlen hK
  go_enter Tryz.func78, Tryz.ntmps78
  go_wp2_with (first
    | (go_at_call 73; refine hw.mono ?_; rintro e w1 ⟨v', rfl, hown, hm⟩; obtain ⟨ao, cap, rfl⟩ := shape_of hown; have H1 := Hid.mk (And.intro hown hm); clear hown hm)
    | (go_at_call 41; refine (hl _ H1.out.2).mono ?_; rintro e w2 ⟨rfl, hw2⟩; subst w2))
  have hd0 : DirMem (w1.alloc (.cells #[.slice ao K cap, .slice none 0 0, .int .i64 n] 126)) w.heap.size w1.heap.size n K (.slice ao K cap) (u64s (wd V) K) 0 (ints (fun i => rk V (512 * i)) 0) :=
    ⟨H1.out.2.size, _, heap_alloc_new _ _, H1.out.1.alloc _, World.ownsRow_nil _ _ _ _⟩
  have HD : Hid _ := And.intro hd0 (Below.alloc H1.out.2 H1.out.2.size (.cells #[.slice ao K cap, .slice none 0 0, .int .i64 n] 126))
  clear hd0
  go_loopw [17, 4] (fun i o wr => ∃ k O : Nat, k ≤ K ∧ i = .int .i64 k ∧ o = .int .i64 O ∧ O ≤ 64 * k ∧ Hid (O = rk V (64 * k)) ∧ Hid (DirMem wr w.heap.size w1.heap.size n K (.slice ao K cap) (u64s (wd V) K) ((k + 7) / 8) (ints (fun i => rk V (512 * i)) ((k + 7) / 8)) ∧ Below w.heap.size w wr)) (fun i _ _ => K - (intOf i).toNat)
  case atStart => exact ⟨0, 0, Nat.zero_le _, rfl, rfl, Nat.zero_le _, Hid.mk rfl, Hid.mk HD.out⟩
  case round =>
    obtain ⟨k, O, hk, rfl, rfl, hO, HO, HR⟩ := hrel
    obtain ⟨m, hb, hv, hm⟩ := HR.out.1.mem
    obtain ⟨am, cm, rfl⟩ := shape_of hm
    obtain ⟨c0, c1, c2, f1⟩ := cells3 hb
    have hlt := lt_of_block hb
    by_cases hkK : k < K
    · obtain ⟨g, cap', he⟩ : ∃ g cap', Value.slice ao K cap = .slice (some ⟨g, 0, none⟩) K cap' := by
        rcases hv.2 with ⟨_, h⟩ | ⟨g, cap, _, h, _⟩
        · omega
        · exact ⟨g, cap, h⟩
      simp only [Value.slice.injEq, true_and] at he
      obtain ⟨rfl, rfl⟩ := he
      have hgd : ¬ g = w1.heap.size := fun e => own_ne hb hv (by decide) (by simp [Value.ownBlock, e])
      have hx := wd_lt V k
      by_cases h8 : k % 8 = 0
      · have h8' : (k : Int) % 8 = 0 := by omega
        have HB : Hid _ := And.intro hb (And.intro hv (And.intro hm h8))
        clear hb hv hm h8
        go_wp2_with (first
          | (go_at_call 92; refine (ones _ (wd_lt V k) _).mono ?_; rintro e w' ⟨rfl, hw'⟩; subst w')
          | (at_builtin; refine wpList_append_own _ rfl (.tmp 27) (.tmp 29) 22 rfl w.heap.size 3 i0 (.int .i64 0) 1 8 Tryz.underlying22 hi hz0 hz1 hz2 rfl (by decide) _ _ _ rfl (HB.out.2.2.1.alloc _) ⟨wr.heap.size, 0, none⟩ 1 1 [.int .i64 (O : Int)] rfl rfl ?c1 ?c2 ?c3 ?c4 ?c5 ?_))
        case c1 => exact one_cell _ _ _
        case c2 => exact one_i64 _
        case c3 => unfold maxLen; omega
        case c4 => omega
        case c5 => have := HR.out.2.size; simp; omega
        intro m' w4 hm4 hgrow _
        obtain ⟨h4, hv4, hD, hB4⟩ := dir_grow HR.out.2 HB.out.1 HR.out.1.lo HR.out.2.size HB.out.2.1 HB.out.2.2.1 hm4 hgrow
        rw [HO.out, marks_step V k HB.out.2.2.2, show (k + 7) / 8 + 1 = (k + 1 + 7) / 8 by have := HB.out.2.2.2; omega] at hD
        obtain ⟨k0, k1, k2, l1⟩ := cells3 h4
        have kg := hv4.cellAt k (by omega)
        rw [u64s_get _ _ _ hkK] at kg
        obtain ⟨am', cm', rfl⟩ := shape_of hm4
        have H4 : Hid _ := And.intro hD hB4
        clear hm4 hgrow h4 hv4 hD hB4 HB HR c0 c1 c2 f1 hlt
        have hr64 := rk_le (wd V k) 64
        go_wp2_with (go_at_call 92; refine (ones _ (wd_lt V k) _).mono ?_; rintro e w' ⟨rfl, hw'⟩; subst w')
        refine ⟨⟨k + 1, O + rk (wd V k) 64, by omega, by go_num, by go_num, by omega, Hid.mk (by rw [HO.out, rk_wd]), Hid.mk H4.out⟩, by simp [intOf]; omega⟩
      · have h8' : ¬ (k : Int) % 8 = 0 := by omega
        have kg := hv.cellAt k (by omega)
        rw [u64s_get _ _ _ hkK] at kg
        have HB : Hid _ := h8
        clear hb hv hm h8
        have hr64 := rk_le (wd V k) 64
        go_wp2_with (go_at_call 92; refine (ones _ (wd_lt V k) _).mono ?_; rintro e w' ⟨rfl, hw'⟩; subst w')
        refine ⟨⟨k + 1, O + rk (wd V k) 64, by omega, by go_num, by go_num, by omega, Hid.mk (by rw [HO.out, rk_wd]), Hid.mk ?_⟩, by simp [intOf]; omega⟩
        have := HB.out
        rw [show (k + 1 + 7) / 8 = (k + 7) / 8 by omega]
        exact HR.out
    · obtain rfl : k = K := by omega
      have HB : Hid _ := And.intro hb (And.intro hv hm)
      clear hb hv hm
      go_wp2_with (at_builtin; refine wpList_append_own _ rfl (.tmp 48) (.tmp 50) 22 rfl w.heap.size 3 i0 (.int .i64 0) 1 8 Tryz.underlying22 hi hz0 hz1 hz2 rfl (by decide) _ _ _ rfl (HB.out.2.2.alloc _) ⟨wr.heap.size, 0, none⟩ 1 1 [.int .i64 (O : Int)] rfl rfl ?d1 ?d2 ?d3 ?d4 ?d5 ?_)
      case d1 => exact one_cell _ _ _
      case d2 => exact one_i64 _
      case d3 => unfold maxLen; omega
      case d4 => omega
      case d5 => have := HR.out.2.size; simp; omega
      intro m' w4 hm4 hgrow _
      obtain ⟨h4, hv4, hD, hB4⟩ := dir_grow HR.out.2 HB.out.1 HR.out.1.lo HR.out.2.size HB.out.2.1 HB.out.2.2 hm4 hgrow
      obtain ⟨k0, k1, k2, l1⟩ := cells3 h4
      obtain ⟨am', cm', rfl⟩ := shape_of hm4
      have H4 : Hid _ := And.intro hD hB4
      clear hm4 hgrow h4 hv4 hD hB4 HB HR c0 c1 c2 f1 hlt
      go_wp2
      go_ret
      obtain ⟨hfit, hlen, rfl⟩ := HH.out
      have hO2 := HO.out
      rw [rk_words hfit] at hO2
      have hl2 : ints (fun i => rk V (512 * i)) ((nw n + 7) / 8) ++ [.int .i64 (O : Int)] = ints (mk V n) (nm n + 1) := by rw [hO2]; exact mk_all V n
      have hD := H4.out.1
      rw [hl2] at hD
      exact ⟨_, rfl, ⟨hfit, hlen, _, hD⟩, H4.out.2⟩

end Go.Proofs.YtbjgbigalfhnjaaGreatDoor
