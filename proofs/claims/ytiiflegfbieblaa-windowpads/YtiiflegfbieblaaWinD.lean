/-
  window's Each: what it lays (a going over for each list).
-/
import Derived.Test.YtiiflegfbieblaaWinC
namespace Go.Proofs.Ytiiflegfbieblaa
open Go.RowKit Go.Shelf
attribute [local go_sem] Oper.semAt_some

theorem Try.infoSeq2 : (Try.prog.info? 40).map (fun i => (i.zero, i.size, i.bytes)) = some (some .nilFunc, 1, 8) := by kernel_rfl

/-- A list of lists of ints as read; each list has room for what it has. -/
def LL (w : World) (v : Value) (L : List (List Int)) : Prop :=
  (L = [] ∧ ∃ ao cap, v = .slice ao 0 cap) ∨ ∃ g o cap, v = .slice (some ⟨g, o, none⟩) L.length cap ∧ g < w.heap.size ∧ ∀ j, j < L.length → ∃ u, w.cell? ⟨g, o + j, none⟩ = some u ∧ IL w u (L.getD j []) ∧ Cap u
theorem LL.more {w w' : World} {v : Value} {L : List (List Int)} (h : LL w v L) (k : More w w') : LL w' v L := by
  rcases h with h | ⟨g, o, cap, e, hg, hc⟩
  · exact .inl h
  · refine .inr ⟨g, o, cap, e, Nat.lt_of_lt_of_le hg k.size, fun j hj => ?_⟩
    obtain ⟨u, h1, h2, h3⟩ := hc j hj
    exact ⟨u, (k.cell hg).trans h1, h2.more k, h3⟩
theorem LL.shape {w : World} {v : Value} {L : List (List Int)} (h : LL w v L) : ∃ ao cap, v = .slice ao L.length cap := by
  rcases h with ⟨h, ao, cap, e⟩ | ⟨g, o, cap, e, _⟩
  · exact ⟨ao, cap, by rw [h]; exact e⟩
  · exact ⟨_, _, e⟩
theorem LL.at {w : World} {ao : Option Addr} {n cap j : Nat} {L : List (List Int)} (h : LL w (.slice ao n cap) L) (hj : j < L.length) : ∃ g o u, ao = some ⟨g, o, none⟩ ∧ g < w.heap.size ∧ w.cell? ⟨g, o + j, none⟩ = some u ∧ IL w u (L.getD j []) ∧ Cap u := by
  rcases h with ⟨h, _⟩ | ⟨g, o, c, e, hg, hc⟩
  · rw [h] at hj; simp at hj
  · obtain ⟨u, h1, h2, h3⟩ := hc j hj
    exact ⟨g, o, u, (Value.slice.inj e).1, hg, h1, h2, h3⟩

/-- The function that Each tells, with the box that it reads. -/
abbrev eaV (B : Nat) : Value := .func (.func 42) #[] #[.pointer (some ⟨B, 0, none⟩)]
/-- What Each has laid. -/
def EaAt (w : World) (lo Be : Nat) (L : List (List Int)) (m : Int) : Prop :=
  ∃ gl, Boxed w Be 70 (.slice (some ⟨gl, 0, none⟩) L.length L.length) ∧ lo ≤ gl ∧ lo ≤ Be ∧ ∀ r, r < L.length → ∃ B, w.cell? ⟨gl, r, none⟩ = some (grV B) ∧ GrAt w lo B (L.getD r []) m
theorem EaAt.more {w w' : World} {lo Be : Nat} {L : List (List Int)} {m : Int} (h : EaAt w lo Be L m) (k : More w w') : EaAt w' lo Be L m := by
  obtain ⟨gl, h1, h2, h3, h4⟩ := h
  refine ⟨gl, boxed_more h1 k, h2, h3, fun r hr => ?_⟩
  obtain ⟨B, h5, h6⟩ := h4 r hr
  exact ⟨B, (k.cell (World.block_lt_of_cell? _ _ h5)).trans h5, h6.more k⟩

theorem box_off {W : World} {B : Nat} {t : TypeId} {v : Value} (h : Boxed W B t v) {g : Nat} (hne : B ≠ g) (r : Nat) (x : Value) : Boxed (W.setCell ⟨g, r, none⟩ x) B t v := (heap_setCell_other W ⟨g, r, none⟩ B x hne).trans h
/-- While Each goes over the lists: r of them have their going over. -/
structure EaI (w : World) (Bx k : Nat) (L : List (List Int)) (m : Int) (r : Nat) (fs : List Value) (wr : World) : Prop where
  row : wr.ownsRow w.heap.size 40 1 (.slice (some ⟨w.heap.size, 0, none⟩) k k) k fs
  box : Boxed wr Bx 70 (.slice (some ⟨w.heap.size, 0, none⟩) k k)
  ne : w.heap.size < Bx
  sz : Bx < wr.heap.size
  more : More w wr
  has : ∀ j, j < r → ∃ B, fs.getD j undef = grV B ∧ GrAt wr (Bx + 1) B (L.getD j []) m
theorem EaI.next {w : World} {Bx k r : Nat} {L : List (List Int)} {m : Int} {fs : List Value} {wr w5 : World} {B : Nat} (h : EaI w Bx k L m r fs wr) (hr : r < k) (hm : More wr w5) (hG : GrAt w5 (Bx + 1) B (L.getD r []) m) :
    EaI w Bx k L m (r + 1) (fs.set r (grV B)) (w5.setCell ⟨w.heap.size, r, none⟩ (grV B)) := by
  have h5 := hm.own h.row
  have hst := World.ownsRow.stored h5 r (grV B)
  have hfl : fs.length = k := by have := h.row.1; omega
  have hne := h.ne
  refine ⟨hst.1, box_off (boxed_more h.box hm) (by omega) _ _, h.ne, by have h1 := h.sz; have h2 := hm.size; simp; omega, (More.trans h.more hm).setCell (p := ⟨w.heap.size, r, none⟩) (Nat.le_refl _) _, fun j hj => ?_⟩
  by_cases e : j = r
  · subst e
    exact ⟨B, by rw [List.getD_eq_getElem?_getD, List.getElem?_set_self (by omega)]; rfl, hG.setCell _ _ (by omega) _⟩
  · obtain ⟨B', h6, h7⟩ := h.has j (by omega)
    exact ⟨B', by rw [List.getD_eq_getElem?_getD, List.getElem?_set_ne (Ne.symm e), ← List.getD_eq_getElem?_getD]; exact h6, (h7.more hm).setCell _ _ (by omega) _⟩
theorem held_box {w' w'' : World} {Bx : Nat} {u : Value} (h : w'.cell? ⟨Bx, 0, none⟩ = some u) (k : More w' w'') : w''.cell? ⟨Bx, 0, none⟩ = some u := (k.cell (World.block_lt_of_cell? _ _ h)).trans h
theorem held_off {w' : World} {Bx g r : Nat} {u x : Value} (h : w'.cell? ⟨Bx, 0, none⟩ = some u) (hne : g < Bx) : (w'.setCell ⟨g, r, none⟩ x).cell? ⟨Bx, 0, none⟩ = some u := by
  rw [World.cell?, heap_setCell_other w' ⟨g, r, none⟩ Bx x (show Bx ≠ g by omega)]; exact h

set_option maxRecDepth 1000000 in
set_option maxHeartbeats 1600000 in
theorem w_each (v : Value) (L : List (List Int)) (m : Int) (w : World) (h : LL w v L) (hl : L.length ≤ 12) (hx : ∀ x ∈ L, x.length ≤ 30) :
    Calls Try.prog 19 #[v, .int .i64 m] w fun e w' => ∃ B, e = .returned (eaV B) ∧ EaAt w' w.heap.size B L m ∧ More w w' := by
  obtain ⟨i0, hi, hz0, hz1, hz2⟩ := info_parts Try.infoSeq2
  have HA := Hid.mk h
  obtain ⟨bo, cb, rfl⟩ := h.shape
  obtain ⟨k, hk⟩ : ∃ k, L.length = k := ⟨_, rfl⟩
  have HX := Hid.mk (And.intro hk (fun j (hj : j < L.length) => (show (L.getD j []).length ≤ 1000000 from Nat.le_trans (hx _ (getD_in hj)) (by decide))))
  rw [hk] at HA hl ⊢
  obtain ⟨M, hM⟩ : ∃ M, M = madeCells (Value.nilFunc).cells (((k : Nat) : Int).toNat * i0.size) := ⟨_, rfl⟩
  have hMs : M.size = k := by rw [hM, hz1, Int.toNat_natCast]; simp [madeCells, Value.cells]
  have hmk : ∀ W : World, (Instr.makeSlice 70 (.int .i64 (k : Int)) (.int .i64 (k : Int))).run Try.prog W = .ok (.slice (some ⟨W.heap.size, 0, none⟩) k k) (W.alloc (.cells M 40)) := fun W => by
    have h := run_make (P := Try.prog) W 70 40 i0 .nilFunc Try.underlying70 hi hz0 .i64 .i64 (k : Int) (k : Int) (by omega) (by omega) (by rw [hz2]; omega) (by omega)
    rw [← hM] at h
    simpa using h
  obtain ⟨w1, hw1⟩ : ∃ w1, w.alloc (.cells M 40) = w1 := ⟨_, rfl⟩
  have hrow : w1.ownsRow w.heap.size 40 1 (.slice (some ⟨w.heap.size, 0, none⟩) k k) k M.toList := by
    rw [← hw1]
    exact World.ownsRow_lit w M k (Nat.le_refl _) (by unfold maxLen; omega) (by omega)
  have hm1 : More w w1 := by rw [← hw1]; exact more_alloc _ _
  have hs1 : w.heap.size < w1.heap.size := by rw [← hw1]; simp
  obtain ⟨w2, hw2⟩ : ∃ w2, w1.alloc (.cells #[.slice none 0 0] 70) = w2 := ⟨_, rfl⟩
  obtain ⟨b2, hm2⟩ := one_box hw2
  have c2 := b2.cell
  have f2 := b2.frozen
  obtain ⟨w3, hw3⟩ : ∃ w3, w2.setCell ⟨w1.heap.size, 0, none⟩ (.slice (some ⟨w.heap.size, 0, none⟩) k k) = w3 := ⟨_, rfl⟩
  have hm3 : More w1 w3 := by rw [← hw3]; exact hm2.setCell (p := ⟨w1.heap.size, 0, none⟩) (Nat.le_refl _) _
  have b3 : Boxed w3 w1.heap.size 70 (.slice (some ⟨w.heap.size, 0, none⟩) k k) := by rw [← hw3]; exact b2.set _
  have H0 := Hid.mk (show EaI w w1.heap.size k L m 0 M.toList w3 from ⟨hm3.own hrow, b3, hs1, b3.lt, More.trans hm1 hm3, fun j hj => by omega⟩)
  clear h hx hM hMs hrow hm1 hm2 hm3 b2 b3 hk
  go_enter Try.func19, Try.ntmps19
  go_wp2
  clear hmk hw1 hw2 hw3 c2 f2
  go_loopw [13] (fun i wr => ∃ (r : Nat) (fs : List Value), r ≤ k ∧ i = .int .i64 r ∧ EaI w w1.heap.size k L m r fs wr) (fun i _ => k - (intOf i).toNat)
  case atStart => exact ⟨0, _, by omega, rfl, H0.out⟩
  case round =>
    obtain ⟨r, fs, hr, rfl, hI⟩ := hrel
    clear H0
    by_cases hlt : r < k
    · obtain ⟨g, o, u, rfl, hg, cu, hu, _⟩ := (HA.out.more hI.more).at (j := r) (by rw [HX.out.1]; exact hlt)
      have hgr := fun W (hm : More wr W) => (callsIn_wide (n := 20)).1 (w_grams 20 (by decide) u (L.getD r []) m W (hu.more hm) (HX.out.2 r (by rw [HX.out.1]; exact hlt)))
      have cb := hI.box.cell
      have HI := Hid.mk hI
      have hne := hI.ne
      have HS := Hid.mk (show ∀ W, More wr W → W.cell? ⟨w.heap.size, r, none⟩ = some (fs.getD r undef) ∧ W.frozen? ⟨w.heap.size, r, none⟩ = false from fun W hm => by
        have h5 := hm.own hI.row
        have hfl : fs.length = k := by have := hI.row.1; omega
        refine ⟨?_, h5.frozenAt r⟩
        rw [h5.cellAt r (by omega), List.getD_eq_getElem?_getD, List.getElem?_eq_getElem (by omega)]
        rfl)
      clear hu hI hg
      go_wp2_with fail
      go_region_with (go_at_call 17; refine (hgr _ (More.drewN wr 1)).mono ?_; rintro e w5 ⟨B, rfl, hG, hM5⟩; obtain ⟨c5, f5⟩ := HS.out w5 (More.trans (More.drewN wr 1) hM5); have cb5 := held_box cb (More.trans (More.drewN wr 1) hM5); have H5 := Hid.mk (And.intro hG (More.trans (More.drewN wr 1) hM5)); clear hG hM5)
      all_goals
        have hz := HI.out.next hlt H5.out.2 (H5.out.1.base (by have := HI.out.sz; show _ ≤ wr.heap.size; omega))
        have HZ := Hid.mk hz
        clear hz
        go_wp2
        go_roundw
        case rel => exact ⟨r + 1, _, by omega, by go_num, HZ.out⟩
        case measure => simp [intOf]; omega
    · obtain rfl : r = k := by omega
      have HE := Hid.mk (show EaAt wr w.heap.size w1.heap.size L m from ⟨w.heap.size, by rw [HX.out.1]; exact hI.box, Nat.le_refl _, Nat.le_of_lt hI.ne, fun j hj => by
        rw [HX.out.1] at hj
        obtain ⟨B, h6, h7⟩ := hI.has j hj
        have hfl : fs.length = r := by have := hI.row.1; omega
        refine ⟨B, ?_, h7.base (by have := hI.ne; omega)⟩
        rw [hI.row.cellAt j (by omega), ← h6, List.getD_eq_getElem?_getD, List.getElem?_eq_getElem (by omega)]
        rfl⟩)
      have HM := Hid.mk hI.more
      clear hI
      go_wp2
      go_ret
      exact ⟨_, rfl, HE.out, HM.out⟩
end Go.Proofs.Ytiiflegfbieblaa
