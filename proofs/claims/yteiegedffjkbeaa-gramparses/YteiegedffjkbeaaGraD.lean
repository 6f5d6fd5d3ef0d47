/-
  gram: Key where there is none; Parse; the document's Key.
-/
import Derived.Test.YteiegedffjkbeaaGraC
import Derived.Shelf.RegionOpenPlain
namespace Go.Proofs.Yteiegedffjkbeaa
open Go.RowKit

set_option maxRecDepth 1000000 in
theorem gr_key_bad (va : Value) (a : List Int) (w : World) (ha : IL w va a) (hn : a.length ≤ 1000000) (hok : okG a = false) :
    Calls Try.prog 12 #[va] w fun e w' => e = .returned (.tuple #[.string (bs []), .int .i64 8]) ∧ w' = w := by
  have hh := key_has va a w ha hn
  rw [hok] at hh
  obtain ⟨ao, ca, rfl⟩ := ha.shape
  clear ha hok
  generalize a.length = n at *
  go_enter Try.func12, Try.ntmps12
  go_wp2_with (go_at_call 26; refine hh.mono ?_; rintro e w' ⟨rfl, hw'⟩; subst w')
  go_ret2
  exact ⟨rfl, rfl⟩

set_option maxRecDepth 1000000 in
theorem gr_parse_bad (s : List UInt8) (w : World) (hn : s.length ≤ 1000000) (h3 : ¬ s.length % 3 = 0) :
    Calls Try.prog 14 #[.string (bs s)] w fun e w' => e = .returned (.tuple #[.slice none 0 0, .int .i64 3]) ∧ w' = w := by
  have hsz := bs_size s
  have hm : ((s.length : Int).tmod 3 != 0) = true := by
    rw [Int.tmod_eq_emod_of_nonneg (by omega)]
    simp
    omega
  generalize bs s = t at *
  generalize s.length = n at *
  go_enter Try.func14, Try.ntmps14
  go_wp2
  go_ret2
  exact ⟨rfl, rfl⟩

theorem more_drew1 (w : World) : More w w.drew := ⟨rfl, rfl, rfl, Nat.le_refl _, fun _ _ => rfl⟩
theorem gor_nat (a b : Nat) (ha : a < 9223372036854775808) (hb : b < 9223372036854775808) : bits .or .i64 (a : Int) (b : Int) = ((a ||| b : Nat) : Int) := by
  have hor : a ||| b < 9223372036854775808 := Nat.or_lt_two_pow (n := 63) ha hb
  have key : (BitVec.ofInt 64 (a : Int) ||| BitVec.ofInt 64 (b : Int)).toNat = a ||| b := by
    rw [BitVec.toNat_or, BitVec.toNat_ofInt, BitVec.toNat_ofInt]
    have e1 : ((a : Int) % ((2 ^ 64 : Nat) : Int)).toNat = a := by omega
    have e2 : ((b : Int) % ((2 ^ 64 : Nat) : Int)).toNat = b := by omega
    rw [e1, e2]
  show IntKind.i64.wrap ((BitVec.ofInt 64 (a : Int) ||| BitVec.ofInt 64 (b : Int)).toNat : Nat) = _
  rw [key, IntKind.wrap_i64]
  omega
theorem join_byte (a b : Nat) (hb : b < 256) : a * 256 ||| b = a * 256 + b := by
  have h := (Nat.shiftLeft_add_eq_or_of_lt (i := 8) (b := b) (by omega) a).symm
  rw [Nat.shiftLeft_eq] at h
  exact h
/-- The numbers behind i bytes. -/
def pvs (s : List UInt8) (m i : Nat) : List Int := (List.range m).map fun j => ((pv s i j : Nat) : Int)
theorem pvs_len (s : List UInt8) (m i : Nat) : (pvs s m i).length = m := by simp [pvs]
theorem pvs_get (s : List UInt8) {m i j : Nat} (h : j < m) : (pvs s m i).getD j 0 = (pv s i j : Nat) := by simp [pvs, List.getD, h]
theorem pvs_set (s : List UInt8) {m i : Nat} (h : i / 3 < m) : (pvs s m i).set (i / 3) ((pv s (i + 1) (i / 3) : Nat) : Int) = pvs s m (i + 1) := by
  apply List.ext_getElem?
  intro j
  rw [List.getElem?_set]
  by_cases e : i / 3 = j
  · subst e
    rw [if_pos rfl, if_pos (by rw [pvs_len]; exact h)]
    simp [pvs, h]
  · rw [if_neg e]
    by_cases hj : j < m
    · simp [pvs, hj, pv_other s fun e' => e e'.symm]
    · rw [List.getElem?_eq_none (by rw [pvs_len]; omega), List.getElem?_eq_none (by rw [pvs_len]; omega)]
theorem none_zs (s : List UInt8) (m : Nat) : (madeCells (Value.int .i64 0).cells (m * 1)).toList = zs (pvs s m 0) := by
  apply List.ext_getElem?
  intro i
  by_cases hi : i < m
  · rw [zs_get _ _ (by rw [pvs_len]; exact hi), pvs_get s hi, pv_zero]
    simp [madeCells, hi, Value.cells, Nat.mod_one]
  · rw [List.getElem?_eq_none (by simp [madeCells]; omega), List.getElem?_eq_none (by simp [zs_len, pvs_len]; omega)]
theorem grown_at (w : World) (g i : Nat) (v : Value) : w.grownBy (w.setCell ⟨g, i, none⟩ v) (some g) :=
  ⟨rfl, rfl, rfl, by simp, fun k _ hk => Below.heap_setCell _ _ _ _ (fun e => hk (by simp [e]))⟩

set_option maxRecDepth 1000000 in
set_option maxHeartbeats 3200000 in
theorem gr_parse (s : List UInt8) (m : Nat) (w : World) (hn : s.length ≤ 1000000) (h3 : s.length = 3 * m) :
    Calls Try.prog 14 #[.string (bs s)] w fun e w' => ∃ r, e = .returned (.tuple #[r, .int .i64 0]) ∧ NL w' w.heap.size r (prs s) ∧ More w w' := by
  have mixed : Try.prog.follows Departure.mixedOrders = true := by kernel_rfl
  obtain ⟨i0, hi, hz0, hz1, hz2⟩ := info_parts Try.infoInt
  have hsz := bs_size s
  have HP := Hid.mk (prs_is h3)
  rw [h3] at hsz hn
  have hmr : (((3 * m : Nat) : Int) % 3 != 0) = false := by simp
  have hmq : ((3 * m : Nat) : Int) / 3 = m := by omega
  obtain ⟨n, hnn⟩ : ∃ n, 3 * m = n := ⟨_, rfl⟩
  rw [hnn] at hsz hn hmr hmq
  have HS := Hid.mk (And.intro (none_zs s m) (And.intro hnn h3))
  clear h3 hnn
  go_enter Try.func14, Try.ntmps14
  go_wp2_with (refine wpList_make_full _ rfl _ _ 22 rfl w.heap.size 3 i0 (.int .i64 0) 1 Try.underlying22 hi hz0 hz1 .i64 .i64 (m : Int) (m : Int) m rfl rfl rfl rfl (by rw [hz2]; omega) (by unfold maxLen; omega) (Nat.le_refl _) ?_; intro w1 hown hgrow; rw [HS.out.1] at hown; have H1 := Hid.mk (And.intro hown (more_none hgrow)); clear hown hgrow)
  go_loopw [16] (fun k wr => ∃ r : Nat, r ≤ n ∧ k = .int .i64 r ∧ NL wr w.heap.size (.slice (some ⟨w.heap.size, 0, none⟩) m m) (pvs s m r) ∧ More w wr) (fun k _ => n - (intOf k).toNat)
  case atStart => exact ⟨0, by omega, rfl, by unfold NL; rw [pvs_len]; exact H1.out.1, H1.out.2⟩
  case round =>
    obtain ⟨r, hr, rfl, hR, hM⟩ := hrel
    by_cases hlt : r < n
    · have hlt' : r < (bs s).size := by omega
      obtain ⟨B, hB⟩ : ∃ B, bt s r = B := ⟨_, rfl⟩
      have hbt : ((bs s)[r]'hlt').toNat = B := by rw [bt_bs, hB]
      have hb256 : B < 256 := by rw [← hB]; exact bt_lt _ _
      obtain ⟨q, hq⟩ : ∃ q, r / 3 = q := ⟨_, rfl⟩
      have hqm : q < m := by have := HS.out.2.1; omega
      have hq3 : (r : Int) / 3 = q := by omega
      have hx1 := pv_lt s r
      have hx2 := pv_next s r
      have hx3 := pvs_set (s := s) (m := m) (i := r) (by omega)
      rw [hq] at hx1 hx2 hx3
      rw [hB] at hx2
      have hrow : wr.ownsRow w.heap.size 3 1 (.slice (some ⟨w.heap.size, 0, none⟩) m m) m (zs (pvs s m r)) := by unfold NL at hR; rw [pvs_len] at hR; exact hR
      have c1 : wr.cell? ⟨w.heap.size, q, none⟩ = some (.int .i64 (pv s r q : Nat)) := by
        rw [hrow.cellAt q (by omega), zs_get _ _ (by rw [pvs_len]; exact hqm), pvs_get s hqm]
      have f1 : wr.frozen? ⟨w.heap.size, q, none⟩ = false := hrow.frozenAt q
      obtain ⟨x, hx⟩ : ∃ x, pv s r q = x := ⟨_, rfl⟩
      rw [hx] at c1 hx1 hx2
      have hst := (hrow.stored q (.int .i64 ((pv s (r + 1) q : Nat) : Int))).1
      rw [zs_set, hx3] at hst
      have hg := grown_at wr w.heap.size q (.int .i64 ((pv s (r + 1) q : Nat) : Int))
      have hM2 : More w (wr.setCell ⟨w.heap.size, q, none⟩ (.int .i64 ((pv s (r + 1) q : Nat) : Int))) := hM.grown hg hM.size (fun k hk => by simp at hk; omega)
      rw [hx2] at hst hM2
      have hor : bits .or .i64 ((x : Int) * 256) (B : Int) = ((x * 256 + B : Nat) : Int) := by
        have := gor_nat (x * 256) B (by omega) (by omega)
        rw [join_byte x B hb256] at this
        rw [← this]; rfl
      have hwx : IntKind.i64.wrap ((x : Int) * 256) = (x : Int) * 256 := by rw [IntKind.wrap_i64]; omega
      obtain ⟨y, hy⟩ : ∃ y : Nat, x * 256 + B = y := ⟨_, rfl⟩
      rw [hy] at hst hM2 hor
      have HN := Hid.mk (And.intro hst hM2)
      clear hR hM hrow hx hx2 hx3 hst hM2 hg hB hy hq
      go_wp2_with fail
      go_region_o
      all_goals (try go_wp2)
      all_goals exact ⟨⟨r + 1, by omega, by go_num, NL.more (by unfold NL; rw [pvs_len]; exact HN.out.1) (more_drew1 _), More.trans HN.out.2 (more_drew1 _)⟩, by simp [intOf]; omega⟩
    · obtain rfl : r = n := by omega
      have HX := Hid.mk (And.intro hR hM)
      have hpr : pvs s m r = prs s := by rw [← HP.out, HS.out.2.1]; rfl
      rw [hpr] at HX
      clear hR hM hpr
      go_wp2
      go_ret2
      exact ⟨_, rfl, HX.out.1, HX.out.2⟩
end Go.Proofs.Yteiegedffjkbeaa
