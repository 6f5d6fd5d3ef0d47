/-
  gram: sorted, whole.
-/
import Derived.Test.YteiegedffjkbeaaGraL
namespace Go.Proofs.Yteiegedffjkbeaa
open Go.RowKit

/-- Two lists, by their places: which one stands ahead. -/
def zz (Z : List (Value × CE)) (j : Nat) : Value × CE := Z.getD j (.slice none 0 0, [], 0)
def encZ (Z : List (Value × CE)) (j : Nat) : List Value := [(zz Z j).1, .int .i64 (zz Z j).2.2]
def cfZ (Z : List (Value × CE)) (i j : Nat) : Int := cmpL (zz Z i).2.1 (zz Z j).2.1
theorem zz_get (Z : List (Value × CE)) {j : Nat} (h : j < Z.length) : zz Z j = Z[j] := by simp [zz, List.getD, h]
theorem zz_il {w : World} {Z : List (Value × CE)} (h : ∀ z ∈ Z, IL w z.1 z.2.1) (j : Nat) : IL w (zz Z j).1 (zz Z j).2.1 := by
  by_cases hj : j < Z.length
  · rw [zz_get Z hj]; exact h _ (List.getElem_mem hj)
  · simp only [zz, List.getD, List.getElem?_eq_none (Nat.le_of_not_lt hj)]
    exact IL.nil _ _ _
theorem swo (Z : List (Value × CE)) : Go.Sort.SWO (ltOf (cfZ Z)) where
  irrefl x := by simp [ltOf, cfZ, cmpL_self]
  trans x y z h1 h2 := decide_eq_true (cmpL_trans (of_decide_eq_true h1) (of_decide_eq_true h2))
  ntrans x y z h1 h2 := decide_eq_false fun h => of_decide_eq_false h1 (cmpL_le_trans h (by
    have := of_decide_eq_false h2
    unfold cfZ at this
    have := cmpL_swap (zz Z y).2.1 (zz Z z).2.1
    omega))
theorem flat_cz (Z : List (Value × CE)) (t : Nat) (h : t < Z.length * 2) : (Go.Sort.flatK (encZ Z) 2 (Array.range Z.length))[t]! = (cz Z)[t]! := by
  rw [Go.Sort.get_flatK _ _ _ _ (by simpa using h)]
  obtain ⟨q, hq⟩ : ∃ q, t = q * 2 ∨ t = q * 2 + 1 := ⟨t / 2, by omega⟩
  have hqz : q < Z.length := by omega
  obtain ⟨g1, g2⟩ := cz_get Z q hqz
  have hlen := cz_len Z
  have e : (Array.range Z.length)[q]! = q := by
    rw [getElem!_pos _ _ (by simpa using hqz)]
    simp
  rcases hq with rfl | rfl
  · rw [show q * 2 / 2 = q by omega, show q * 2 % 2 = 0 by omega, e, getElem!_pos (cz Z) (q * 2) (by omega)]
    unfold encZ
    rw [zz_get Z hqz]
    rw [List.getElem?_eq_getElem (by omega)] at g1
    exact (Option.some.inj g1).symm
  · rw [show (q * 2 + 1) / 2 = q by omega, show (q * 2 + 1) % 2 = 1 by omega, e, getElem!_pos (cz Z) (q * 2 + 1) (by omega)]
    unfold encZ
    rw [zz_get Z hqz]
    rw [List.getElem?_eq_getElem (by omega)] at g2
    exact (Option.some.inj g2).symm
theorem row_holds {w0 w : World} {B g cap : Nat} {Z : List (Value × CE)} (h : CRow w0 w B (.slice (some ⟨g, 0, none⟩) Z.length cap) Z) : Go.Sort.HoldsK (encZ Z) 2 w g 0 (Array.range Z.length) := by
  intro j hj
  have hj2 : j < Z.length * 2 := by simpa using hj
  have hlen := cz_len Z
  refine ⟨?_, by rw [Nat.zero_add]; exact h.row.frozenAt j⟩
  rw [Nat.zero_add, flat_cz Z j hj2, h.row.cellAt j (by omega), List.getElem?_eq_getElem (by omega), getElem!_pos (cz Z) j (by omega)]
  rfl
theorem sort_more {w0 w : World} {blk : Nat} (Z : List (Value × CE)) (m : Nat) (d : Array Nat) (os : Array Obj) (hM : More w0 w) (hb : w0.heap.size ≤ blk) : More w0 (sortWorldK (encZ Z) 2 w blk 0 m d os) := by
  refine ⟨hM.os, hM.tape, hM.output, ?_, fun k hk => ?_⟩
  · have := hM.size
    simp [sortWorldK, Go.Sort.putRowK]
    omega
  · have hkw : k < w.heap.size := Nat.lt_of_lt_of_le hk hM.size
    have hs : k < (Go.Sort.putRowK (encZ Z) 2 (Go.Sort.ahead w m) blk 0 d).heap.size := by simp [Go.Sort.putRowK, hkw]
    rw [sortWorldK, Go.Sort.heap_grow_old _ _ hs, ← hM.block k hk]
    show ((w.heap.modify blk _)[k]? : Option Obj) = w.heap[k]?
    rw [Array.getElem?_modify, if_neg (by omega)]

theorem sort_ces (w w1 : World) (v : Value) (Z : List (Value × CE)) (h : CRow w w1 w.heap.size v Z) (hM : More w w1) (hl : Z.length ≤ 100000) (hs : Sht (Z.map Prod.snd)) :
    Calls Try.prog 36 #[v, .func (.func 37) #[] #[]] w1 fun e w' => e = .returned (.tuple #[]) ∧ ∃ S, CL w' v S ∧ S.Perm (Z.map Prod.snd) ∧ (∀ i j, i < j → j < S.length → cmpL (ce S i).1 (ce S j).1 ≤ 0) ∧ More w w' := by
  by_cases h0 : Z.length = 0
  · obtain ⟨ao, cap, rfl⟩ := h.shape
    obtain rfl : Z = [] := List.eq_nil_of_length_eq_zero h0
    refine (AnyF.slices_SortFunc_none (P := Try.prog) (ρ := shsortCE_ren) shsortCE ao cap (.func (.func 37) #[] #[]) w1).mono ?_
    rintro e w' ⟨rfl, rfl⟩
    exact ⟨rfl, [], CL.nil _ _ _, List.Perm.refl _, fun i j _ hj => by simp at hj, hM⟩
  · obtain ⟨g, cap, rfl, hg⟩ : ∃ g cap, v = .slice (some ⟨g, 0, none⟩) Z.length cap ∧ w.heap.size ≤ g ∧ g < w1.heap.size := by
      rcases h.row.2 with ⟨_, hn⟩ | ⟨g, cap, cur, hv, h1, h2, _⟩
      · omega
      · exact ⟨g, cap, hv, h1, lt_of_block h2⟩
    have hil := zz_il h.ins
    have hsh : ∀ j, (zz Z j).2.1.length ≤ 1000000 := fun j => by
      by_cases hj : j < Z.length
      · rw [zz_get Z hj]
        exact hs.mem _ (List.mem_map.2 ⟨Z[j], List.getElem_mem hj, rfl⟩)
      · simp [zz, List.getD, List.getElem?_eq_none (Nat.le_of_not_lt hj)]
    have hcmp : CmpLays Try.prog 37 #[] (encZ Z) 2 (cfZ Z) g 0 (Array.range Z.length).size w1 := fun m os dk _ x y =>
      sort_clo _ _ _ _ _ _ _ ((hil x).more (sort_more Z m dk os hM hg.1)) ((hil y).more (sort_more Z m dk os hM hg.1)) (hsh x) (hsh y)
    have h1 : ∀ x, ∀ u ∈ encZ Z x, u.oneCell' = true := fun x u hu => by
      obtain ⟨ao, c, e⟩ := (hil x).shape
      simp only [encZ, List.mem_cons, List.not_mem_nil, or_false] at hu
      rcases hu with rfl | rfl
      · rw [e]; rfl
      · rfl
    have hH := row_holds h
    have hcon := AnyQ.slices_SortFunc (P := Try.prog) (ρ := shsortCE_ren) shsortCE 2 Try.isAgg43 Try.sizeOf43 (encZ Z) (fun _ => rfl) h1 (cfZ Z) (swo Z) 37 #[] g 0 cap (Array.range Z.length) w1 (enters_of Try.func37 (by kernel_rfl) rfl) hcmp hH hg.2 (by simp; omega)
    rw [show (Array.range Z.length).size = Z.length by simp] at hcon
    refine Calls.mono (f := 36) hcon ?_
    rintro e w' ⟨rfl, d', m, os, hp, hso, rfl⟩
    have hds : d'.size = Z.length := by rw [hp.1]; simp
    have hin : ∀ i, i < d'.size → d'[i]! < Z.length := fun i hi => by
      have hmem : d'[i]! ∈ (d'.extract 0 Z.length).toList := by
        rw [getElem!_pos d' i hi]
        simp only [Array.mem_toList_iff]
        rw [show d'.extract 0 Z.length = d' by rw [← hds]; simp]
        exact Array.getElem_mem hi
      have := hp.2.2.mem_iff.1 hmem
      simp at this
      omega
    have hge : ∀ i, i < d'.size → ce (d'.toList.map fun i => (zz Z i).2) i = (zz Z d'[i]!).2 := fun i hi => by
      simp [ce, List.getD, hi]
    have hmore := sort_more Z m d' os hM hg.1
    refine ⟨rfl, d'.toList.map fun i => (zz Z i).2, ?_, ?_, ?_, hmore⟩
    · have hHH : Go.Sort.HoldsK (encZ Z) 2 (sortWorldK (encZ Z) 2 w1 g 0 m d' os) g 0 d' := by
        refine Go.Sort.holdsK_grow _ _ _ _ _ _ _ (by simp [Go.Sort.putRowK]; exact hg.2) (Go.Sort.holdsK_putRowK _ _ _ _ _ (Array.range Z.length) _ hH (by simp [hds]))
      refine .inr ⟨g, 0, cap, by rw [List.length_map, show d'.toList.length = Z.length by rw [Array.length_toList]; exact hds], ?_, fun j hj => ?_⟩
      · simp [sortWorldK, Go.Sort.putRowK]; omega
      · rw [List.length_map, Array.length_toList] at hj
        have c1 := (hHH.cell (i := j) (c := 0) hj (by decide)).1
        have c2 := (hHH.cell (i := j) (c := 1) hj (by decide)).1
        rw [hge j hj]
        exact ⟨_, c1, c2, (hil _).more hmore⟩
    · have hfull : d'.toList.Perm (List.range Z.length) := by
        have := hp.2.2
        rw [show d'.extract 0 Z.length = d' by rw [← hds]; simp] at this
        simpa using this
      have hm := hfull.map fun i => (zz Z i).2
      have he : (List.range Z.length).map (fun i => (zz Z i).2) = Z.map Prod.snd := by
        apply List.ext_getElem
        · simp
        · intro j h1 h2
          simp at h1
          simp [zz_get Z h1]
      rw [he] at hm
      exact hm
    · intro i j hij hj
      rw [List.length_map, Array.length_toList] at hj
      rw [hge i (by omega), hge j hj]
      have := of_decide_eq_false (hso i j (Nat.zero_le _) hij (by omega))
      unfold cfZ at this
      have := cmpL_swap (zz Z d'[i]!).2.1 (zz Z d'[j]!).2.1
      omega
set_option maxRecDepth 1000000 in
theorem gr_sorted (v : Value) (L : List CE) (w : World) (h : CL w v L) (hl : L.length ≤ 100000) (hs : Sht L) :
    Calls Try.prog 28 #[v] w fun e w' => ∃ r S, e = .returned r ∧ CL w' r S ∧ S.Perm L ∧ (∀ i j, i < j → j < S.length → cmpL (ce S i).1 (ce S j).1 ≤ 0) ∧ More w w' := by
  have hcl := cl_ces v L w h (by omega)
  have HS := Hid.mk hs
  have HL := Hid.mk hl
  obtain ⟨ao, cap, rfl⟩ := h.shape
  clear h hs hl
  generalize hn : L.length = n at *
  go_enter Try.func28, Try.ntmps28
  go_wp2_with (go_at_call 35; refine hcl.mono ?_; rintro e w1 ⟨v1, Z, rfl, hZ, hC, hM⟩; have H1 := Hid.mk (And.intro hZ (And.intro hC hM)); obtain ⟨zo, zc, rfl⟩ := hC.shape; clear hZ hC hM)
  have hss := sort_ces w w1 _ Z H1.out.2.1 H1.out.2.2 (by have := HL.out; rw [← hn, ← H1.out.1, List.length_map] at this; exact this) (by rw [H1.out.1]; exact HS.out)
  generalize Z.length = zl at *
  refine hss.mono ?_
  rintro e w' ⟨rfl, S, hC, hp, ho, hM⟩
  have HN := Hid.mk (And.intro hC (And.intro hp (And.intro ho hM)))
  clear hC hp ho hM hss
  go_wp2
  go_ret
  rw [H1.out.1] at HN
  exact ⟨_, S, rfl, HN.out.1, HN.out.2.1, HN.out.2.2.1, HN.out.2.2.2⟩
end Go.Proofs.Yteiegedffjkbeaa
