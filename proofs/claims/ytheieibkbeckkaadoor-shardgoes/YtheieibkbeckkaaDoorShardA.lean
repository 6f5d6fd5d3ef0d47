/-
  shard: steady, and the parts.
-/
import Derived.Test.YtheieibkbeckkaaDoorShardMath
import Derived.OwnWalk
namespace Go.Proofs.YtheieibkbeckkaaDoor
open Go.RowKit

set_option maxHeartbeats 800000 in
set_option maxRecDepth 1000000 in
theorem sh_steady (v : Value) (m d : Nat) (g : Nat → Nat) (b : Bool) (w : World) (h : ZRd w v m (fun j => (g j : Int))) (hg : ∀ j, j < m → g j ≤ 1099511627776) (hd : d ≤ 1) (hm : m ≤ 1000) (hb : b = true ↔ Stdy g d m) :
    Calls Tryd.prog 23 #[v, .int .i64 d] w fun e w' => e = .returned (.bool b) ∧ ∃ q, w' = w.drewN q := by
  obtain ⟨ao, cap, rfl⟩ := h.shape
  have HH := Hid.mk (And.intro h (And.intro hg hb))
  clear h hg hb
  go_enter Tryd.func23, Tryd.ntmps23
  go_wp2
  go_loopw [5] (fun i wr => ∃ k : Nat, 1 ≤ k ∧ (k ≤ m ∨ k = 1) ∧ i = .int .i64 k ∧ Hid (Stdy g d k ∧ ∃ q, wr = w.drewN q)) (fun i _ => m - (intOf i).toNat)
  case atStart => exact ⟨1, by omega, .inr rfl, rfl, Hid.mk ⟨fun j hj => by omega, 0, rfl⟩⟩
  case round =>
    obtain ⟨k, h1, h2, rfl, HR⟩ := hrel
    have hmore : Hid (More w wr) := Hid.mk (by obtain ⟨q, hq⟩ := HR.out.2; rw [hq]; exact More.drewN w q)
    have hk1 : k ≤ 1000 := by omega
    by_cases hkK : k < m
    · cases k with
      | zero => omega
      | succ j =>
        obtain ⟨bl, o, rfl, hc⟩ := HH.out.1.cell (w' := wr) (j + 1) hkK
        have hck := hc hmore.out
        clear hc
        obtain ⟨b', o', he, hc⟩ := HH.out.1.cell (w' := wr) j (by omega)
        simp at he
        obtain ⟨rfl, rfl⟩ := he
        have hcj := hc hmore.out
        clear hc
        have hx1 := HH.out.2.1 (j + 1) hkK
        have hy1 := HH.out.2.1 j (by omega)
        obtain ⟨x, hx⟩ : ∃ x, g (j + 1) = x := ⟨_, rfl⟩
        obtain ⟨y, hy⟩ : ∃ y, g j = y := ⟨_, rfl⟩
        rw [hx] at hck hx1
        rw [hy] at hcj hy1
        have HX := Hid.mk (And.intro hx hy)
        clear hx hy
        by_cases hs : (x : Int) - (y : Int) = (d : Int)
        · have he : Hid (Stdy g d (j + 1 + 1)) := Hid.mk fun i hi => by
            rcases Nat.lt_or_ge i j with hlt | hge
            · exact HR.out.1 i (by omega)
            · obtain rfl : i = j := by omega
              rw [HX.out.1, HX.out.2]; omega
          clear h1 h2
          go_wp2
          go_quiet (fail)
          go_wp2
          obtain ⟨q, hq⟩ := HR.out.2
          exact ⟨⟨j + 1 + 1, by omega, by omega, by go_num, Hid.mk ⟨he.out, q + nq, by rw [hq]; simp⟩⟩, by simp [intOf]; omega⟩
        · have he : Hid (b = false) := Hid.mk (by
            cases b with
            | false => rfl
            | true =>
              have := HH.out.2.2.1 rfl j hkK
              rw [HX.out.1, HX.out.2] at this; omega)
          clear h1 h2
          go_wp2
          go_quiet (fail)
          go_wp2
          go_ret
          obtain ⟨q, hq⟩ := HR.out.2
          exact ⟨by rw [he.out]; rfl, q + nq, by rw [hq]; simp⟩
    · have he : Hid (b = true) := Hid.mk (HH.out.2.2.2 fun i hi => HR.out.1 i (by omega))
      clear h2
      go_wp2
      go_ret
      exact ⟨by rw [he.out]; rfl, HR.out.2⟩

/-- The differences of the first k numbers, noughts behind them. -/
def difTo (g : Nat → Nat) (k i : Nat) : Nat := if i < k then dif g i else 0
theorem difTo_set (g : Nat → Nat) (k K : Nat) : (ints (difTo g k) K).set k (.int .i64 (dif g k : Nat)) = ints (difTo g (k + 1)) K := by
  apply List.ext_getElem?
  intro i
  by_cases hi : i < K
  · rw [ints_get _ _ _ hi, List.getElem?_set]
    by_cases h : k = i
    · subst h; simp [ints_len, hi, difTo]
    · rw [if_neg h, ints_get _ _ _ hi]
      unfold difTo
      by_cases h2 : i < k
      · rw [if_pos h2, if_pos (by omega)]
      · rw [if_neg h2, if_neg (by omega)]
  · rw [List.getElem?_eq_none (by simp [ints_len]; omega), List.getElem?_eq_none (by simp [ints_len]; omega)]
theorem difTo_all (g : Nat → Nat) (K : Nat) : ints (difTo g K) K = ints (dif g) K := ints_congr fun _ hi => if_pos hi
theorem difTo_none (g : Nat → Nat) (K : Nat) : (madeCells (Value.int IntKind.i64 0).cells (K * 1)).toList = ints (difTo g 0) K := by
  apply List.ext_getElem?
  intro i
  by_cases hi : i < K
  · rw [ints_get _ _ _ hi]
    simp [madeCells, difTo, hi, Value.cells, Nat.mod_one]
  · rw [List.getElem?_eq_none (by simp [madeCells]; omega), List.getElem?_eq_none (by simp [ints_len]; omega)]

/-- A row of ints of the call's own, as it is read. -/
theorem zrd_of_own {w : World} {base K : Nat} {v : Value} {f : Nat → Nat} (h : w.ownsRow base 3 1 v K (ints f K)) : ZRd w v K (fun j => (f j : Int)) := by
  have h' := h
  rcases h.2 with ⟨rfl, rfl⟩ | ⟨g, cap, cur, rfl, hb, hg, _⟩
  · exact .inl ⟨rfl, _, _, rfl⟩
  · refine .inr ⟨g, 0, cap, rfl, lt_of_block hg, fun j hj => ?_⟩
    have := h'.cellAt j (by omega)
    rw [ints_get _ _ _ hj] at this
    rw [Nat.zero_add]; exact this

/-- A part's value: its kind, and what is kept of it. -/
def PartAt (w : World) (base : Nat) (pv : Value) (g : Nat → Nat) (m : Nat) : Prop :=
  (kind g m = 0 ∧ pv = .iface 60 (.agg #[])) ∨ (kind g m = 1 ∧ pv = .iface 61 (.agg #[])) ∨
  (kind g m = 2 ∧ ∃ s, pv = .iface 63 (.agg #[.pointer (some ⟨s, 0, none⟩)]) ∧ SeqAt w base s (dif g) m)
theorem PartAt.more {w w' : World} {base : Nat} {pv : Value} {g : Nat → Nat} {m : Nat} (h : PartAt w base pv g m) (k : More w w') : PartAt w' base pv g m := by
  rcases h with h | h | ⟨h, s, hs, hq⟩
  · exact .inl h
  · exact .inr (.inl h)
  · exact .inr (.inr ⟨h, s, hs, hq.more k⟩)
theorem SeqAt.lower {w : World} {base base' s : Nat} {f : Nat → Nat} {n : Nat} (h : SeqAt w base s f n) (hb : base' ≤ base) : SeqAt w base' s f n := by
  obtain ⟨p, d, hs, hp, hd⟩ := h.mem
  exact ⟨h.climbs, h.num, p, d, hs, hp.lower hb, hd.lower hb⟩
theorem PartAt.lower {w : World} {base base' : Nat} {pv : Value} {g : Nat → Nat} {m : Nat} (h : PartAt w base pv g m) (hb : base' ≤ base) : PartAt w base' pv g m := by
  rcases h with h | h | ⟨h, s, hs, hq⟩
  · exact .inl h
  · exact .inr (.inl h)
  · exact .inr (.inr ⟨h, s, hs, hq.lower hb⟩)

set_option maxHeartbeats 800000 in
set_option maxRecDepth 1000000 in
theorem sh_partOf (v : Value) (K : Nat) (g : Nat → Nat) (w : World) (h : ZRd w v K (fun j => (g j : Int))) (hC : Climbs g K) (hK : K ≤ 1000) :
    Calls Tryd.prog 13 #[v] w fun e w' => ∃ pv, e = .returned pv ∧ PartAt w' w.heap.size pv g K ∧ More w w' := by
  have hst := fun d b w' (hm : More w w') => sh_steady v K d g b w' (h.more hm) hC.top
  by_cases h0 : IsRun g K
  · have hs1 := hst 1 true w (Below.refl _ _) (by omega) hK (by simp [stdy_run, h0])
    have hk := kind_run h0
    obtain ⟨ao, cap, rfl⟩ := h.shape
    clear h hC hst h0
    go_enter Tryd.func13, Tryd.ntmps13
    go_wp2_with (go_at_call 23; refine hs1.mono ?_; rintro e w' ⟨rfl, q, hw⟩; subst w')
    go_ret
    exact ⟨_, rfl, .inl ⟨hk, rfl⟩, More.drewN _ _⟩
  by_cases h1 : IsSame g K
  · have hs1 := hst 1 false w (Below.refl _ _) (by omega) hK (by simp [stdy_run, h0])
    have hs2 := fun w' hm => hst 0 true w' hm (by omega) hK (by simp [stdy_same, h1])
    have hk := kind_same h0 h1
    obtain ⟨ao, cap, rfl⟩ := h.shape
    have T1 : Hid True := trivial
    clear h hC hst h0 h1
    go_enter Tryd.func13, Tryd.ntmps13
    go_wp2_with (first
      | (go_at_call 23; have T2 := T1; clear T1; refine hs1.mono ?_; rintro e w1 ⟨rfl, q, hw⟩; have H1 : Hid (More w w1) := Hid.mk (by rw [hw]; exact More.drewN _ _); clear hw)
      | (go_at_call 23; refine (hs2 _ H1.out).mono ?_; rintro e w2 ⟨rfl, q, hw⟩; subst w2))
    go_ret
    exact ⟨_, rfl, .inr (.inl ⟨hk, rfl⟩), More.trans H1.out (More.drewN _ _)⟩
  have hs1 := hst 1 false w (Below.refl _ _) (by omega) hK (by simp [stdy_run, h0])
  have hs2 := fun w' hm => hst 0 false w' hm (by omega) hK (by simp [stdy_same, h1])
  have hk := Hid.mk (kind_other h0 h1)
  obtain ⟨ao, cap, rfl⟩ := h.shape
  obtain ⟨i0, hi, hz0, hz1, hz2⟩ := info_parts Tryd.infoInt
  have T1 : Hid True := trivial
  have HH := Hid.mk (And.intro h hC)
  clear h hC hst h0 h1
  go_enter Tryd.func13, Tryd.ntmps13
  go_wp2_with (first
      | (go_at_call 23; have T2 := T1; clear T1; refine hs1.mono ?_; rintro e w1 ⟨rfl, q, hw⟩; have H1 : Hid (More w w1) := Hid.mk (by rw [hw]; exact More.drewN _ _); clear hw)
      | (go_at_call 23; refine (hs2 _ H1.out).mono ?_; rintro e w2 ⟨rfl, q, hw⟩; have H2 : Hid (More w w2) := Hid.mk (by rw [hw]; exact More.trans H1.out (More.drewN _ _)); clear hw)
      | (refine wpList_make_full _ rfl _ _ 22 rfl w2.heap.size 3 i0 (.int .i64 0) 1 Tryd.underlying22 hi hz0 hz1 .i64 .i64 K K K rfl rfl rfl rfl (by rw [hz2]; omega) (by unfold maxLen; omega) (Nat.le_refl _) ?_; intro w3 hown hg; have H3 := Hid.mk (And.intro hown hg); clear hown hg))
  have hs3 : w2.heap.size < w3.heap.size := by
    rcases H3.out.1.2 with ⟨h, _⟩ | ⟨g, c, cur, h, _, hg, _⟩
    · cases h
    · simp at h; obtain ⟨rfl, _⟩ := h; exact lt_of_block hg
  have hm3 : More w2 w3 := ⟨H3.out.2.os, H3.out.2.tape, H3.out.2.output, H3.out.2.size, fun k hk => H3.out.2.block k hk (by simp)⟩
  have h0 := H3.out.1
  rw [difTo_none g K] at h0
  go_loopw [21, 4, 5] (fun i a b wr => ∃ k : Nat, k ≤ K ∧ i = .int .i64 k ∧ Hid (wr.ownsRow w2.heap.size 3 1 (.slice (some ⟨w2.heap.size, 0, none⟩) K K) K (ints (difTo g k) K) ∧ More w2 wr ∧ w2.heap.size < wr.heap.size)) (fun i _ _ _ => K - (intOf i).toNat)
  case atStart => exact ⟨0, Nat.zero_le _, rfl, Hid.mk ⟨h0, hm3, hs3⟩⟩
  case round =>
    obtain ⟨k, hk', rfl, HR⟩ := hrel
    by_cases hkK : k < K
    · obtain ⟨bl, o, rfl, hc⟩ := HH.out.1.cell (w' := wr) k hkK
      have hck := hc (More.trans H2.out HR.out.2.1)
      clear hc
      obtain ⟨b', o', he, hc⟩ := HH.out.1.cell (w' := wr) 0 (by omega)
      simp at he
      obtain ⟨rfl, rfl⟩ := he
      have hc0 := hc (More.trans H2.out HR.out.2.1)
      rw [Nat.add_zero] at hc0
      clear hc
      have hx1 := HH.out.2.top k hkK
      have hy1 := HH.out.2.mono (Nat.zero_le k) hkK
      obtain ⟨x, hx⟩ : ∃ x, g k = x := ⟨_, rfl⟩
      obtain ⟨y, hy⟩ : ∃ y, g 0 = y := ⟨_, rfl⟩
      have hdf : dif g k = x - y := by unfold dif; rw [hx, hy]
      rw [hx] at hck hx1 hy1
      rw [hy] at hc0 hy1
      have HX := Hid.mk hdf
      clear hx hy hdf
      have hsub : (x : Int) - (y : Int) = ((x - y : Nat) : Int) := by omega
      have hfz : wr.frozen? ⟨w2.heap.size, k, none⟩ = false := HR.out.1.frozenAt k
      have hcl : wr.cell? ⟨w2.heap.size, k, none⟩ = some (.int .i64 (difTo g k k : Nat)) := by
        have := HR.out.1.cellAt k (by omega)
        rw [ints_get _ _ _ hkK] at this
        exact this
      go_wp2
      refine ⟨⟨k + 1, by omega, by go_num, Hid.mk ?_⟩, by simp [intOf]; omega⟩
      have hs := (HR.out.1.stored k (.int .i64 ((x - y : Nat) : Int))).1
      rw [← HX.out, difTo_set g k K, HX.out] at hs
      exact ⟨hs, HR.out.2.1.setCell (p := ⟨w2.heap.size, k, none⟩) (Nat.le_refl _) _, Nat.lt_of_lt_of_le HR.out.2.2 ((Below.refl 0 wr).setCell (p := ⟨w2.heap.size, k, none⟩) (Nat.zero_le _) _).size⟩
    · obtain rfl : k = K := by omega
      have hr := HR.out.1
      rw [difTo_all] at hr
      have hnew := el_new _ k (dif g) wr (zrd_of_own hr) (dif_climbs HH.out.2) hK
      clear hr hkK hk'
      go_wp2_with (go_at_call 12; refine hnew.mono ?_; rintro e w4 ⟨s, rfl, hq, hm⟩; have H4 := Hid.mk (And.intro hq hm); clear hq hm)
      go_ret
      have h24 := More.trans (More.trans H2.out HR.out.2.1) H4.out.2
      exact ⟨_, rfl, .inr (.inr ⟨hk.out, s, rfl, H4.out.1.lower (More.trans H2.out HR.out.2.1).size⟩), h24⟩

end Go.Proofs.YtheieibkbeckkaaDoor
