/-
  vocab: Line; cmp.Or.
-/
import Derived.Test.YtbpegpgbdemomaaVoJ
namespace Go.Proofs.Ytbpegpgbdemomaa
open Go.RowKit

set_option maxRecDepth 1000000 in
set_option maxHeartbeats 2000000 in
theorem cmp_or (g : Nat) (a b : List UInt8) (hb : b ≠ []) (w : World) (c0 : w.cell? ⟨g, 0, none⟩ = some (.string (bs a))) (c1 : w.cell? ⟨g, 1, none⟩ = some (.string (bs b))) :
    Calls Try.prog 47 #[.slice (some ⟨g, 0, none⟩) 2 2] w fun e w' => e = .returned (.string (bs (if a = [] then b else a))) ∧ w' = w := by
  by_cases h0 : a = []
  · subst h0
    rw [if_pos rfl]
    have e0 : (bs ([] : List UInt8)).toList.isEmpty = true := by rw [bs_list]; rfl
    have e1 : (bs b).toList.isEmpty = false := by rw [bs_list]; cases b with
      | nil => exact absurd rfl hb
      | cons x r => rfl
    clear hb
    go_enter Try.func47, Try.ntmps47
    go_wp2
    go_loop [8] (fun k => k = .int .i64 0 ∨ k = .int .i64 1) (fun k => 2 - (intOf k).toNat)
    case atStart => exact .inl rfl
    case round =>
      rcases hrel with rfl | rfl
      · go_wp2
        exact ⟨.inr rfl, by simp [intOf]⟩
      · go_wp2
        go_ret
        exact ⟨rfl, rfl⟩
  · rw [if_neg h0]
    have e1 : (bs a).toList.isEmpty = false := by rw [bs_list]; cases a with
      | nil => exact absurd rfl h0
      | cons x r => rfl
    clear h0 hb
    go_enter Try.func47, Try.ntmps47
    go_wp2
    go_loop [8] (fun k => k = .int .i64 0) (fun _ => 0)
    case atStart => rfl
    case round =>
      obtain rfl := hrel
      go_wp2
      go_ret
      exact ⟨rfl, rfl⟩

theorem strs_set (L : List (List UInt8)) (r : Nat) (s : List UInt8) : (strs L).set r (.string (bs s)) = strs (L.set r s) := by simp [strs, List.map_set]
theorem none_strs (m : Nat) : (madeCells (Value.string ⟨#[]⟩).cells (m * 1)).toList = strs (List.replicate m []) := by
  apply List.ext_getElem?
  intro i
  by_cases hi : i < m
  · rw [strs_get _ _ (by simpa using hi)]
    simp [madeCells, hi, Value.cells, Nat.mod_one, List.getD, bs]
  · rw [List.getElem?_eq_none (by simp [madeCells]; omega), List.getElem?_eq_none (by simp [strs]; omega)]
/-- A row of texts of the call's own, in one block. -/
def TRow (w : World) (B g n : Nat) (L : List (List UInt8)) : Prop := w.ownsRow B 9 1 (.slice (some ⟨g, 0, none⟩) n n) n (strs L) ∧ L.length = n
theorem TRow.more {w w' : World} {B g n : Nat} {L : List (List UInt8)} (h : TRow w B g n L) (k : More w w') : TRow w' B g n L := ⟨k.own h.1, h.2⟩
theorem TRow.at {w : World} {B g n r : Nat} {L : List (List UInt8)} (h : TRow w B g n L) (hr : r < n) : w.cell? ⟨g, r, none⟩ = some (.string (bs (L.getD r []))) := by
  rw [h.1.cellAt r (by omega), strs_get _ _ (by rw [h.2]; exact hr)]
theorem TRow.soft {w : World} {B g n : Nat} {L : List (List UInt8)} (h : TRow w B g n L) (r : Nat) : w.frozen? ⟨g, r, none⟩ = false := h.1.frozenAt r
theorem TRow.set {w : World} {B g n : Nat} {L : List (List UInt8)} (h : TRow w B g n L) (r : Nat) (s : List UInt8) : TRow (w.setCell ⟨g, r, none⟩ (.string (bs s))) B g n (L.set r s) :=
  ⟨by rw [← strs_set]; exact (h.1.stored r _).1, by rw [List.length_set]; exact h.2⟩

/-- strings.Join of such a row. -/
theorem join_row (w : World) (B g n : Nat) (L : List (List UInt8)) (h : TRow w B g n L) (hn : n ≤ 60) (hx : ∀ j, j < n → (L.getD j []).length ≤ 255) :
    Calls Try.prog 48 #[.slice (some ⟨g, 0, none⟩) n n, .string (bs [32])] w fun e w' => e = .returned (.string (bs (jn (fun j => L.getD j []) n))) ∧ More w w' := by
  by_cases h0 : n = 0
  · subst h0
    refine (sh_join_none _ _ _ w).mono ?_
    rintro e w' ⟨rfl, rfl⟩
    exact ⟨rfl, More.refl _⟩
  · have hl : (L.map bs).length = n := by rw [List.length_map]; exact h.2
    have hmap : (L.map bs).map (·.data.toList) = L := by
      rw [List.map_map]
      conv => rhs; rw [← List.map_id L]
      exact List.map_congr_left fun x _ => bs_data x
    have hj : Lib.join L [32] = jn (fun j => L.getD j []) n := by
      rw [jn_join, ← h.2, list_of]
    have hlen : (Lib.join ((L.map bs).map (·.data.toList)) (bs [32]).data.toList).length ≤ 140737488355328 := by
      rw [hmap, bs_data, hj]
      have := jn_len (fun j => L.getD j []) 255 n hx
      omega
    have hk := sh_join g 0 n (L.map bs) (bs [32]) w (fun j x hjx => by
      have hj2 : j < n := by
        have := (List.getElem?_eq_some_iff.1 hjx).1
        omega
      rw [Nat.zero_add, h.at hj2]
      rw [List.getElem?_map] at hjx
      have h3 : L[j]? = some (L.getD j []) := by rw [List.getD_eq_getElem?_getD, List.getElem?_eq_getElem (by rw [h.2]; exact hj2)]; rfl
      rw [h3] at hjx
      simp only [Option.map_some, Option.some.injEq] at hjx
      rw [hjx]) (World.block_lt_of_cell? _ _ (h.at (r := 0) (by omega))) (by omega) (by omega) hlen
    rw [hl] at hk
    refine hk.mono ?_
    rintro e w' ⟨rfl, hb⟩
    refine ⟨?_, hb⟩
    rw [hmap, bs_data, hj]; rfl

set_option maxRecDepth 1000000 in
set_option maxHeartbeats 4000000 in
theorem vo_line (p : Option Addr) (u : Value) (ts : List (List UInt8)) (K : Nat) (g : Nat → Int) (w : World) (hb : ZRd w u K g) (hK : K ≤ 60) (hx : ∀ i, i < ts.length → ts.getD i [] ≠ [] ∧ (ts.getD i []).length ≤ 255)
    (hwd : ∀ (W : World), More w W → ∀ i : Int, Calls Try.prog 25 #[.pointer p, .int .i64 i] W fun e w' => e = .returned (.string (bs (wdI ts i))) ∧ More W w') :
    Calls Try.prog 29 #[.pointer p, u] w fun e w' => e = .returned (.string (bs (jn (fun j => lnI ts (g j)) K))) ∧ More w w' := by
  obtain ⟨i0, hi, hz0, hz1, hz2⟩ := info_parts Try.infoStr
  have HA := Hid.mk (And.intro hb (And.intro hwd (And.intro (fun i => lnI_of (ts := ts) (fun j hj => (hx j hj).1) i) (fun i => lnI_len (ts := ts) (fun j hj => (hx j hj).2) i))))
  obtain ⟨bo, cb, rfl⟩ := hb.shape
  obtain ⟨f, hf⟩ : ∃ f : Nat → List UInt8, (fun j => lnI ts (g j)) = f := ⟨_, rfl⟩
  have HF := Hid.mk (fun j => (show f j = lnI ts (g j) by rw [← hf]))
  rw [hf]
  obtain ⟨M, hM⟩ : ∃ M, M = madeCells (Value.string ⟨#[]⟩).cells (((K : Nat) : Int).toNat * i0.size) := ⟨_, rfl⟩
  have hMl : M.toList = strs (List.replicate K []) := by rw [hM, hz1, Int.toNat_natCast]; exact none_strs K
  have hMs : M.size = K := by rw [← Array.length_toList, hMl, strs_len]; simp
  have hmk : ∀ W : World, (Instr.makeSlice 22 (.int .i64 (K : Int)) (.int .i64 (K : Int))).run Try.prog W = .ok (.slice (some ⟨W.heap.size, 0, none⟩) K K) (W.alloc (.cells M 9)) := fun W => by
    have h := run_make (P := Try.prog) W 22 9 i0 (.string ⟨#[]⟩) Try.underlying22 hi hz0 .i64 .i64 (K : Int) (K : Int) (by omega) (by omega) (by rw [hz2]; omega) (by omega)
    rw [← hM] at h
    simpa using h
  have hrow : TRow (w.alloc (.cells M 9)) w.heap.size w.heap.size K (List.replicate K []) := by
    refine ⟨?_, by simp⟩
    rw [← hMl]
    exact World.ownsRow_lit w M K (Nat.le_refl _) (by unfold maxLen; omega) (by omega)
  have HR := Hid.mk hrow
  clear hb hwd hx hf hrow hM hMl hMs
  go_enter Try.func29, Try.ntmps29
  go_wp2
  clear hmk
  go_loopw [13] (fun k wr => ∃ (r : Nat) (L : List (List UInt8)), r ≤ K ∧ k = .int .i64 r ∧ TRow wr w.heap.size w.heap.size K L ∧ (∀ j, j < r → L.getD j [] = f j) ∧ More w wr) (fun k _ => K - (intOf k).toNat)
  case atStart => exact ⟨0, _, by omega, rfl, HR.out, (fun j h => by omega), more_alloc _ _⟩
  case round =>
    obtain ⟨r, L, hr, rfl, hN, hL, hM⟩ := hrel
    by_cases hlt : r < K
    · obtain ⟨gb, ob, rfl, cB⟩ : ∃ gb ob, bo = some ⟨gb, ob, none⟩ ∧ wr.cell? ⟨gb, ob + r, none⟩ = some (.int .i64 (g r)) := by
        rcases HA.out.1 with ⟨h, _⟩ | ⟨gb, ob, cap, h1, _, h2⟩
        · omega
        · have h3 := h2 r hlt
          exact ⟨gb, ob, (Value.slice.inj h1).1, (hM.cell (World.block_lt_of_cell? _ _ h3)).trans h3⟩
      have hc := HA.out.2.1 wr hM (g r)
      have hl := HA.out.2.2.1 (g r)
      rw [← HF.out r] at hl
      generalize g r = X at cB hc hl
      obtain ⟨y, hy⟩ : ∃ y, wdI ts X = y := ⟨_, rfl⟩
      rw [hy] at hc hl
      obtain ⟨z, hz⟩ : ∃ z, f r = z := ⟨_, rfl⟩
      rw [hz] at hl
      have hor := fun (W : World) (gg : Nat) (hgg : gg = W.heap.size) => cmp_or gg y unkW unk_ne (W.alloc (.cells #[.string (bs y), .string (bs unkW)] 9)) (by subst hgg; exact (wcells2 (heap_alloc_new W _)).1) (by subst hgg; exact (wcells2 (heap_alloc_new W _)).2.1)
      rw [← hl] at hor
      have HM := Hid.mk (And.intro hN (And.intro hL (And.intro hM hz)))
      clear hN hL hM hz hl hy
      go_wp2_with (first
        | (go_at_call 25; refine hc.mono ?_; rintro e w2 ⟨rfl, hm2⟩; have H2 := Hid.mk hm2; clear hm2 hc)
        | (go_at_call 47; refine (hor w2 _ ?_).mono ?_; · simp
           rintro e w' ⟨rfl, hw'⟩; subst w'
           have hN2 := HM.out.1.more (More.trans H2.out (more_alloc w2 (.cells #[.string (bs y), .string (bs unkW)] 9)))
           have cS := hN2.at hlt; have fS := hN2.soft r; have H3 := Hid.mk hN2; clear hN2 hor))
      go_roundw
      case rel => exact ⟨r + 1, L.set r z, by omega, by go_num, H3.out.set r z, fun j hj => by
          by_cases hjr : j = r
          · subst hjr
            rw [HM.out.2.2.2, List.getD_eq_getElem?_getD, List.getElem?_set_self (by rw [HM.out.1.2]; omega)]; rfl
          · rw [List.getD_eq_getElem?_getD, List.getElem?_set_ne (fun e => hjr e.symm), ← List.getD_eq_getElem?_getD]; exact HM.out.2.1 j (by omega), (More.trans HM.out.2.2.1 (More.trans H2.out (more_alloc w2 (.cells #[.string (bs y), .string (bs unkW)] 9)))).setCell (p := ⟨w.heap.size, r, none⟩) (Nat.le_refl _) _⟩
      case measure => simp [intOf]; omega
    · obtain rfl : r = K := by omega
      have hj := join_row wr w.heap.size w.heap.size r L hN hK (fun j hj => by rw [hL j hj, HF.out j]; exact HA.out.2.2.2 _)
      rw [jn_congr (f := fun j => L.getD j []) (g := f) hL] at hj
      have HM := Hid.mk hM
      clear hN hL hM
      go_wp2_with (go_at_call 48; refine hj.mono ?_; rintro e w2 ⟨rfl, hm2⟩; have H2 := Hid.mk hm2; clear hm2)
      go_ret
      exact ⟨rfl, More.trans HM.out H2.out⟩
end Go.Proofs.Ytbpegpgbdemomaa
