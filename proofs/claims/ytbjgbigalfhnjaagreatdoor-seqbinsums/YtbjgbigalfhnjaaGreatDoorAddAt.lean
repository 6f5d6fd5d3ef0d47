/-
  bitrow's Add, and where the words lie behind it: in the block in which they lay, or in one that is new.
-/
import Derived.Test.YtbjgbigalfhnjaaGreatDoorSet05
import Derived.Maps.AppendAt
namespace Go.Proofs.YtbjgbigalfhnjaaGreatDoor
open Go.RowKit

/-- The slice v' lies where v lay, or in a block that is new. -/
def AtOld (w : World) (v v' : Value) : Prop := ∀ k, v'.ownBlock = some k → v.ownBlock = some k ∨ w.heap.size ≤ k
theorem atOld_of {w w3 : World} {v v' : Value} (hs : w.heap.size ≤ w3.heap.size) (h : v'.ownBlock = v.ownBlock ∨ v'.ownBlock = some (w3.heap.size + 1)) : AtOld w v v' := fun k hk => by
  rcases h with h | h
  · exact .inl (by rw [← h]; exact hk)
  · rw [h] at hk
    have : w3.heap.size + 1 = k := by simpa using hk
    exact .inr (by omega)


set_option maxHeartbeats 800000 in
set_option maxRecDepth 1000000 in
theorem add_mid_at (base b g K cap n x N V : Nat) (w : World) (hK : K = nw n) (hb : w.heap[b]? = some (.cells #[.slice (some ⟨g, 0, none⟩) K cap, .int .i64 n] 102 (0, 0))) (hlo : base ≤ b) (hsz : base ≤ w.heap.size) (hV : V < 2 ^ n)
    (hown : w.ownsRow base 68 1 (.slice (some ⟨g, 0, none⟩) K cap) K (u64s (wd V) K)) (hu0 : n % 64 ≠ 0) (hN : N ≤ 64) (hx : x < 18446744073709551616) (hxN : Lib.bitLen x ≤ N) (hnL : n ≤ 1099511627776) :
    Calls Tryz.prog 75 #[.pointer (some ⟨b, 0, none⟩), .int .u64 x, .int .i64 N] w fun e w' => e = .returned (.int .i64 0) ∧
      (∃ u, w'.heap[b]? = some (.cells #[u, .int .i64 ((n + N : Nat) : Int)] 102 (0, 0)) ∧ w'.ownsRow base 68 1 u (nw (n + N)) (u64s (wd (cat V n x)) (nw (n + N))) ∧ AtOld w (Value.slice (some ⟨g, 0, none⟩) K cap) u) ∧ KeepsO base (fun k => k = b ∨ (Value.slice (some ⟨g, 0, none⟩) K cap).ownBlock = some k) w w' := by
  obtain ⟨c0, c1, f0, f1⟩ := cells2 hb
  obtain ⟨q, hq⟩ : ∃ q, n / 64 = q := ⟨_, rfl⟩
  obtain ⟨u, hu⟩ : ∃ u, n % 64 = u := ⟨_, rfl⟩
  have hqK : q < K := by unfold nw at hK; omega
  have cq : w.cell? ⟨g, q, none⟩ = some (.int .u64 (wd V q : Nat)) := by rw [hown.cellAt q (by omega), u64s_get _ _ _ hqK]
  have fq := hown.frozenAt q
  have hgb : ¬ g = b := fun e => own_ne hb hown (by decide) (by simp [Value.ownBlock, e])
  have hd : (n : Int) / 64 = q := by omega
  have hm : (n : Int) % 64 = u := by omega
  have hub : u < 64 := by omega
  have hu1 : u ≠ 0 := by omega
  have hL : Value.int .u64 (bits .or .u64 ((wd V q : Nat) : Int) (IntKind.u64.wrap ((x : Int) * 2 ^ u))) = .int .u64 (wd (cat V n x) (n / 64) : Nat) := by
    have e1 : IntKind.u64.wrap ((x : Int) * 2 ^ u) = ((x * 2 ^ u % 18446744073709551616 : Nat) : Int) := by
      rw [IntKind.wrap_u64, Int.natCast_emod, Int.natCast_mul, Int.natCast_pow]; rfl
    rw [e1, u64_or_nat _ _ (wd_lt _ _) (Nat.mod_lt _ (by decide)), wd_cat_mid x hV, hq, hu]
  have mw := mid_world (x := x) hK hb hlo hV hown (.int .i64 ((n : Int) + (N : Int))) hL
  rw [hq] at mw
  have HH : Hid (K = nw n ∧ n / 64 = q ∧ n % 64 = u ∧ V < 2 ^ n ∧ n % 64 ≠ 0) := ⟨hK, hq, hu, hV, hu0⟩
  clear hK hq hu hV hb hown hL hu0
  have hwo : ∀ w, Calls Tryz.prog 70 #[.int .i64 ((n : Int) + (N : Int))] w fun e w' => e = .returned (.int .i64 (nw (n + N) : Nat)) ∧ w' = w := fun w => wordsOf (n + N) (by omega) w
  have MW : Hid _ := mw
  clear mw
  go_enter Tryz.func75, Tryz.ntmps75
  go_wp2_with (go_at_call 74; refine (lane_Width x hx _).mono ?_; rintro e w' ⟨rfl, rfl⟩)
  go_region
  all_goals go_wp2_with fail
  obtain ⟨hb2, hown2, hkeep⟩ := MW.out
  generalize ((w'.setCell ⟨g, q, none⟩ (.int .u64 (bits .or .u64 ((wd V q : Nat) : Int) (IntKind.u64.wrap ((x : Int) * 2 ^ u))))).setCell ⟨b, 1, none⟩ (.int .i64 ((n : Int) + (N : Int)))).drew = w2 at *
  obtain ⟨d0, d1, e0, e1⟩ := cells2 hb2
  go_quiet ((go_at_call 70; exact Calls.quiet_of_same (hwo _)))
  have hb3 : (w2.drewN nq).heap[b]? = some (.cells #[.slice (some ⟨g, 0, none⟩) K cap, .int .i64 ((n : Int) + (N : Int))] 102 (0, 0)) := hb2
  have hown3 : (w2.drewN nq).ownsRow base 68 1 (.slice (some ⟨g, 0, none⟩) K cap) K (u64s (wd (cat V n x)) K) := hown2
  have hkeep3 := hkeep.drewN nq
  clear hwo MW hb2 hown2 hkeep d0 d1 e0 e1
  generalize w2.drewN nq = w3 at *
  obtain ⟨d0, d1, e0, e1⟩ := cells2 hb3
  have hsz3 : base ≤ w3.heap.size := Nat.le_trans hsz hkeep3.below.size
  have hX : ((x : Int) / 2 ^ (64 - u)) = ((x / 2 ^ (64 - u) : Nat) : Int) := by rw [Int.natCast_ediv, Int.natCast_pow]; rfl
  by_cases hov : K < nw (n + N)
  · have hK1 : nw (n + N) = K + 1 := by
      have := HH.out.1
      unfold nw at hov this ⊢
      omega
    have HB : Hid _ := And.intro hb3 hown3
    have hblt := lt_of_block hb3
    have hB1 : Hid (u64s (wd (cat V n x)) K ++ [.int .u64 ((x : Int) / 2 ^ (64 - u))] = u64s (wd (cat V n x)) (K + 1)) := by
      have hn := wd_cat_new HH.out.2.2.2.1 hx HH.out.2.2.2.2
      have h64 : K = n / 64 + 1 := by
        have := HH.out.1
        have := HH.out.2.2.2.2
        unfold nw at *
        omega
      have e : u64s (wd (cat V n x)) (K + 1) = u64s (wd (cat V n x)) K ++ [.int .u64 (wd (cat V n x) K : Nat)] := by simp [u64s, List.range_succ]
      rw [e, h64, hn, HH.out.2.2.1, hX]
      rfl
    clear hb3 hown3 hX
    obtain ⟨i0, hi, hz0, hz1, hz2⟩ := info_parts Tryz.info36
    go_wp2_with (at_builtin; refine wpList_append_own_at _ rfl (.tmp 70) (.tmp 72) 82 rfl base 68 i0 (.int .u64 0) 1 8 Tryz.underlying82 hi hz0 hz1 hz2 rfl (by decide) _ _ _ rfl (HB.out.2.alloc _) ⟨w3.heap.size, 0, none⟩ 1 1 [.int .u64 ((x : Int) / 2 ^ (64 - u))] rfl rfl ?c1 ?c2 ?c3 ?c4 ?c5 ?_)
    case c1 => intro j y hj; match j, hj with | 0, hj => simp at hj; subst hj; simp [Addr.add]
    case c2 => intro y hy; simp at hy; subst hy; rfl
    case c3 => have := HH.out.1; unfold nw at this; unfold maxLen; omega
    case c4 => have := HH.out.1; unfold nw at this; omega
    case c5 => simp; omega
    · intro v' w4 hown4 hgrow _ hat
      have Hat := Hid.mk (atOld_of hkeep3.below.size hat)
      clear hat
      obtain ⟨hb3, hown3⟩ := HB.out
      obtain ⟨h4, h5, hown5, hkeep5⟩ := grow_world hkeep3 (.inl rfl) (fun _ h => .inr h) hb3 hlo hsz3 hown3 hown4 hgrow
      rw [hB1.out] at hown5
      obtain ⟨g', cap', rfl⟩ : ∃ g cap', v' = .slice (some ⟨g, 0, none⟩) (K + 1) cap' := by
        rcases hown4.2 with ⟨_, h⟩ | ⟨g, cap', _, h, _⟩
        · omega
        · exact ⟨g, cap', h⟩
      obtain ⟨k0, k1, l0, l1⟩ := cells2 h4
      have H5 : Hid _ := And.intro h5 hown5
      clear hb3 hown3 hown4 hgrow h4 h5 hown5 HB hB1
      go_wp2
      go_ret
      refine ⟨rfl, ⟨_, H5.out.1, ?_, Hat.out⟩, hkeep5⟩
      rw [hK1]
      exact H5.out.2
  · have hK1 : nw (n + N) = K := by
      have := HH.out.1
      unfold nw at hov this ⊢
      omega
    have HB : Hid _ := And.intro hb3 hown3
    clear hb3 hown3 hX
    go_wp2
    go_ret
    refine ⟨rfl, ⟨_, HB.out.1, ?_, fun _ h => .inl h⟩, hkeep3⟩
    rw [hK1]
    exact HB.out.2

set_option maxHeartbeats 800000 in
set_option maxRecDepth 1000000 in
theorem add_first_at (base b K n x N V : Nat) (v : Value) (w : World) (hK : K = nw n) (hb : w.heap[b]? = some (.cells #[v, .int .i64 n] 102 (0, 0))) (hlo : base ≤ b) (hsz : base ≤ w.heap.size) (hV : V < 2 ^ n)
    (hown : w.ownsRow base 68 1 v K (u64s (wd V) K)) (hu0 : n % 64 = 0) (hN : N ≤ 64) (hx : x < 18446744073709551616) (hxN : Lib.bitLen x ≤ N) (hnL : n ≤ 1099511627776) :
    Calls Tryz.prog 75 #[.pointer (some ⟨b, 0, none⟩), .int .u64 x, .int .i64 N] w fun e w' => e = .returned (.int .i64 0) ∧
      (∃ u, w'.heap[b]? = some (.cells #[u, .int .i64 ((n + N : Nat) : Int)] 102 (0, 0)) ∧ w'.ownsRow base 68 1 u (nw (n + N)) (u64s (wd (cat V n x)) (nw (n + N))) ∧ AtOld w (v) u) ∧ KeepsO base (fun k => k = b ∨ v.ownBlock = some k) w w' := by
  obtain ⟨ao, cap, rfl⟩ : ∃ ao cap, v = .slice ao K cap := by
    rcases hown.2 with ⟨h, h2⟩ | ⟨g, cap, _, h, _⟩
    · exact ⟨none, 0, by rw [h, h2]⟩
    · exact ⟨_, _, h⟩
  obtain ⟨c0, c1, f0, f1⟩ := cells2 hb
  have hm : (n : Int) % 64 = 0 := by omega
  have hKn : K = n / 64 := by unfold nw at hK; omega
  have hlist : Hid (u64s (wd V) K ++ [.int .u64 (x : Int)] = u64s (wd (cat V n x)) (K + 1) ∧ u64s (wd V) K = u64s (wd (cat V n x)) K) := by
    have e : u64s (wd V) K = u64s (wd (cat V n x)) K := u64s_congr fun i hi => (wd_cat_low x hV i (by omega)).symm
    refine ⟨?_, e⟩
    rw [u64s_succ, hKn, wd_cat_first hV hx hu0, ← hKn, e]
  have hwo : ∀ w, Calls Tryz.prog 70 #[.int .i64 ((n : Int) + (N : Int))] w fun e w' => e = .returned (.int .i64 (nw (n + N) : Nat)) ∧ w' = w := fun w => wordsOf (n + N) (by omega) w
  have hs1 : (w.setCell ⟨b, 1, none⟩ (.int .i64 ((n : Int) + (N : Int)))).heap[b]? = _ := set_1 hb
  have hs2 := ownsRow_setCell_other hown (a := ⟨b, 1, none⟩) (own_ne hb hown (by decide)) (.int .i64 ((n : Int) + (N : Int)))
  have hs3 := (KeepsO.refl base (fun k => k = b ∨ (Value.slice ao K cap).ownBlock = some k) w).setCell (p := ⟨b, 1, none⟩) hlo hb (by decide) (.inl rfl) (.int .i64 ((n : Int) + (N : Int)))
  have MW : Hid _ := And.intro hs1 (And.intro hs2 hs3)
  have HH : Hid (K = nw n ∧ K = n / 64) := ⟨hK, hKn⟩
  clear hs1 hs2 hs3 hb hown hK hKn hV
  go_enter Tryz.func75, Tryz.ntmps75
  go_wp2_with (go_at_call 74; refine (lane_Width x hx _).mono ?_; rintro e w' ⟨rfl, rfl⟩)
  obtain ⟨hb2, hown2, hkeep⟩ := MW.out
  clear MW
  generalize (w'.setCell ⟨b, 1, none⟩ (.int .i64 ((n : Int) + (N : Int)))) = w2 at *
  obtain ⟨d0, d1, e0, e1⟩ := cells2 hb2
  go_quiet ((go_at_call 70; exact Calls.quiet_of_same (hwo _)))
  have hb3 : (w2.drewN nq).heap[b]? = some (.cells #[.slice ao K cap, .int .i64 ((n : Int) + (N : Int))] 102 (0, 0)) := hb2
  have hown3 : (w2.drewN nq).ownsRow base 68 1 (.slice ao K cap) K (u64s (wd V) K) := hown2
  have hkeep3 := hkeep.drewN nq
  clear hwo hb2 hown2 hkeep d0 d1 e0 e1
  generalize w2.drewN nq = w3 at *
  obtain ⟨d0, d1, e0, e1⟩ := cells2 hb3
  have hsz3 : base ≤ w3.heap.size := Nat.le_trans hsz hkeep3.below.size
  by_cases hov : K < nw (n + N)
  · have hK1 : nw (n + N) = K + 1 := by
      have := HH.out.1
      unfold nw at hov this ⊢
      omega
    have HB : Hid _ := And.intro hb3 hown3
    have hblt := lt_of_block hb3
    clear hb3 hown3
    obtain ⟨i0, hi, hz0, hz1, hz2⟩ := info_parts Tryz.info36
    go_wp2_with (at_builtin; refine wpList_append_own_at _ rfl (.tmp 70) (.tmp 72) 82 rfl base 68 i0 (.int .u64 0) 1 8 Tryz.underlying82 hi hz0 hz1 hz2 rfl (by decide) _ _ _ rfl (HB.out.2.alloc _) ⟨w3.heap.size, 0, none⟩ 1 1 [.int .u64 (x : Int)] rfl rfl ?c1 ?c2 ?c3 ?c4 ?c5 ?_)
    case c1 => intro j y hj; match j, hj with | 0, hj => simp at hj; subst hj; simp [Addr.add]
    case c2 => intro y hy; simp at hy; subst hy; rfl
    case c3 => have := HH.out.1; unfold nw at this; unfold maxLen; omega
    case c4 => have := HH.out.1; unfold nw at this; omega
    case c5 => simp; omega
    · intro v' w4 hown4 hgrow _ hat
      have Hat := Hid.mk (atOld_of hkeep3.below.size hat)
      clear hat
      obtain ⟨hb3, hown3⟩ := HB.out
      obtain ⟨h4, h5, hown5, hkeep5⟩ := grow_world hkeep3 (.inl rfl) (fun _ h => .inr h) hb3 hlo hsz3 hown3 hown4 hgrow
      rw [hlist.out.1] at hown5
      obtain ⟨g', cap', rfl⟩ : ∃ g cap', v' = .slice (some ⟨g, 0, none⟩) (K + 1) cap' := by
        rcases hown4.2 with ⟨_, h⟩ | ⟨g, cap', _, h, _⟩
        · omega
        · exact ⟨g, cap', h⟩
      obtain ⟨k0, k1, l0, l1⟩ := cells2 h4
      have H5 : Hid _ := And.intro h5 hown5
      clear hb3 hown3 hown4 hgrow h4 h5 hown5 HB
      go_wp2
      go_ret
      refine ⟨rfl, ⟨_, H5.out.1, ?_, Hat.out⟩, hkeep5⟩
      rw [hK1]
      exact H5.out.2
  · have hK1 : nw (n + N) = K := by
      have := HH.out.1
      unfold nw at hov this ⊢
      omega
    have HB : Hid _ := And.intro hb3 hown3
    clear hb3 hown3
    go_wp2
    go_ret
    refine ⟨rfl, ⟨_, HB.out.1, ?_, fun _ h => .inl h⟩, hkeep3⟩
    rw [hK1, ← hlist.out.2]
    exact HB.out.2


/-- Add of bits that may be: the row behind it; only its own blocks have turned, and they are the old ones or new. -/
theorem row_add_at (base b V n x N : Nat) (w : World) (h : RowAt w base b V n) (hsz : base ≤ w.heap.size) (hx : x < 18446744073709551616) (hxN : Lib.bitLen x ≤ N) (hN : N ≤ 64) (hn : n + 64 ≤ 1099511627776) :
    Calls Tryz.prog 75 #[.pointer (some ⟨b, 0, none⟩), .int .u64 x, .int .i64 N] w fun e w' => e = .returned (.int .i64 0) ∧ RowAt w' base b (cat V n x) (n + N) ∧ KeepsO base (RowBlk w b) w w' ∧ ∀ k, RowBlk w' b k → RowBlk w b k ∨ w.heap.size ≤ k := by
  have hlt := width_lt x N hx hxN
  obtain ⟨v, hb, hown⟩ := h.mem
  have fin : ∀ (e : Ending) (w' : World), (e = .returned (.int .i64 0) ∧ (∃ u, w'.heap[b]? = some (.cells #[u, .int .i64 ((n + N : Nat) : Int)] 102 (0, 0)) ∧ w'.ownsRow base 68 1 u (nw (n + N)) (u64s (wd (cat V n x)) (nw (n + N))) ∧ AtOld w v u) ∧ KeepsO base (fun k => k = b ∨ v.ownBlock = some k) w w') →
      (e = .returned (.int .i64 0) ∧ RowAt w' base b (cat V n x) (n + N) ∧ KeepsO base (RowBlk w b) w w' ∧ ∀ k, RowBlk w' b k → RowBlk w b k ∨ w.heap.size ≤ k) := fun e w' ⟨a, ⟨u, m1, m2, m3⟩, k⟩ => by
    refine ⟨a, ⟨h.lo, cat_lt h.fit hlt, by omega, u, m1, m2⟩, ⟨k.toKeeps, fun j hj hs => k.only j hj (fun hj2 => hs (hj2.imp id fun h2 => ⟨_, _, hb, h2⟩))⟩, ?_⟩
    rintro j (rfl | ⟨u', y, hu, ho⟩)
    · exact .inl (.inl rfl)
    · rw [m1] at hu
      simp at hu
      rw [← hu.1] at ho
      rcases m3 j ho with h | h
      · exact .inl (.inr ⟨_, _, hb, h⟩)
      · exact .inr h
  by_cases hu : n % 64 = 0
  · exact (add_first_at base b (nw n) n x N V v w rfl hb h.lo hsz h.fit hown hu hN hx hxN h.len).mono fin
  · obtain ⟨g, cap, rfl⟩ : ∃ g cap, v = .slice (some ⟨g, 0, none⟩) (nw n) cap := by
      rcases hown.2 with ⟨_, h⟩ | ⟨g, cap, _, h, _⟩
      · unfold nw at h; omega
      · exact ⟨g, cap, h⟩
    exact (add_mid_at base b g (nw n) cap n x N V w rfl hb h.lo hsz h.fit hown hu hN hx hxN h.len).mono fin
/-- A row's blocks are there, and from base on. -/
theorem rowBlk_in {w : World} {base b V n k : Nat} (h : RowAt w base b V n) (hk : RowBlk w b k) : base ≤ k ∧ k < w.heap.size := by
  obtain ⟨v, hb, hown⟩ := h.mem
  rcases hk with rfl | ⟨v', y, hb', ho⟩
  · exact ⟨h.lo, lt_of_block hb⟩
  · rw [hb] at hb'
    simp at hb'
    rw [← hb'.1] at ho
    exact hown.lt k ho

end Go.Proofs.YtbjgbigalfhnjaaGreatDoor
