/-
  gram: sorted.
-/
import Derived.Test.YteiegedffjkbeaaGraShelf
namespace Go.Proofs.Yteiegedffjkbeaa
open Go.RowKit

theorem CL.cells {w : World} {ao : Option Addr} {n cap : Nat} {L : List CE} (h : CL w (.slice ao n cap) L) : ∃ Z : List (Value × CE), Z.map Prod.snd = L ∧ (∀ z ∈ Z, IL w z.1 z.2.1) ∧ ∀ (a : Addr), ao = some a → ∀ W, More w W → ∀ (j : Nat) u, (cz Z)[j]? = some u → W.cell? (a.add j) = some u := by
  rcases h with ⟨h0, _⟩ | ⟨b, o, c, hv, hb, hc⟩
  · obtain rfl : L = [] := List.eq_nil_of_length_eq_zero h0
    exact ⟨[], rfl, (fun z hz => by simp at hz), fun a _ W _ j u hu => by simp [cz] at hu⟩
  · have hex : ∀ j, ∃ u, j < L.length → w.cell? ⟨b, o + j * 2, none⟩ = some u ∧ w.cell? ⟨b, o + j * 2 + 1, none⟩ = some (.int .i64 (ce L j).2) ∧ IL w u (ce L j).1 := fun j => by
      by_cases hj : j < L.length
      · obtain ⟨u, hu⟩ := hc j hj
        exact ⟨u, fun _ => hu⟩
      · exact ⟨undef, fun hj' => absurd hj' hj⟩
    obtain ⟨F, hF⟩ := Classical.axiomOfChoice hex
    have hlen : ((List.range L.length).map fun j => (F j, ce L j)).length = L.length := by simp
    refine ⟨(List.range L.length).map fun j => (F j, ce L j), ?_, ?_, ?_⟩
    · apply List.ext_getElem
      · simp
      · intro j h1 h2
        simp [h2]
    · intro z hz
      simp only [List.mem_map, List.mem_range] at hz
      obtain ⟨j, hj, rfl⟩ := hz
      exact (hF j hj).2.2
    · intro a ha W hW j u hu
      obtain ⟨e, _, _⟩ := Value.slice.inj hv
      rw [e] at ha
      obtain rfl := Option.some.inj ha
      have hjl : j < L.length * 2 := by
        have := (List.getElem?_eq_some_iff.1 hu).1
        rw [cz_len, hlen] at this
        exact this
      obtain ⟨g1, g2⟩ := cz_get ((List.range L.length).map fun j => (F j, ce L j)) (j / 2) (by rw [hlen]; omega)
      rw [Addr.add_lit, hW.cell hb]
      have hq := hF (j / 2) (by omega)
      rcases (show j = j / 2 * 2 ∨ j = j / 2 * 2 + 1 by omega) with e | e
      · rw [e] at hu
        rw [g1] at hu
        rw [e, hq.1, ← hu]
        simp
      · rw [e] at hu
        rw [g2] at hu
        rw [e, ← Nat.add_assoc, hq.2.1, ← hu]
        simp
theorem cz_one (w : World) (Z : List (Value × CE)) (h : ∀ z ∈ Z, IL w z.1 z.2.1) : ∀ u ∈ cz Z, u.oneCell' = true := by
  intro u hu
  simp only [cz, List.mem_flatMap] at hu
  obtain ⟨z, hz, hu⟩ := hu
  obtain ⟨ao, cap, e⟩ := (h z hz).shape
  simp only [List.mem_cons, List.not_mem_nil, or_false] at hu
  rcases hu with rfl | rfl
  · rw [e]; rfl
  · rfl

set_option maxRecDepth 1000000 in
theorem cl_ces (v : Value) (L : List CE) (w : World) (h : CL w v L) (hK : L.length ≤ 1000000) :
    Calls Try.prog 35 #[v] w fun e w' => ∃ v' Z, e = .returned v' ∧ Z.map Prod.snd = L ∧ CRow w w' w.heap.size v' Z ∧ More w w' := by
  obtain ⟨i0, hi, hz0, hz1, hz2⟩ := info_parts Try.infoCE
  have he : (w.alloc (.cells #[] 43)).ownsRow w.heap.size 43 2 (.slice (some ⟨w.heap.size, 0, none⟩) 0 0) 0 [] := World.ownsRow_lit w #[] 0 (Nat.le_refl _) (by decide) rfl
  have hke : More w (w.alloc (.cells #[] 43)) := more_alloc _ _
  obtain ⟨ao, cap, rfl⟩ := h.shape
  obtain ⟨Z, hZ, hZi, hZc⟩ := h.cells
  obtain ⟨K, hKe⟩ : ∃ K, L.length = K := ⟨_, rfl⟩
  have hZl : Z.length = K := by rw [← hKe, ← hZ, List.length_map]
  cases ao with
  | none =>
    have h0 : L = [] := by
      rcases h with ⟨h0, _⟩ | ⟨b, o, c, e, _⟩
      · exact List.eq_nil_of_length_eq_zero h0
      · exact absurd (Value.slice.inj e).1 (by simp)
    have hn : ∀ w : World, (binOp .eql 35 (.slice none K cap) (.slice none 0 0)).run Try.prog w = .ok (.bool true) w := fun _ => rfl
    have H0 := Hid.mk h0
    rw [hKe]
    clear h he hke hKe h0 hK hZ hZi hZc hZl
    go_enter Try.func35, Try.ntmps35
    go_wp2
    go_ret
    exact ⟨_, [], rfl, by rw [H0.out]; rfl, CRow.nil _ _ _, More.refl _⟩
  | some a =>
    have hn : ∀ w : World, (binOp .eql 35 (.slice (some a) K cap) (.slice none 0 0)).run Try.prog w = .ok (.bool false) w := fun _ => rfl
    have HE : Hid _ := And.intro he hke
    have HC : Hid _ := hZc a rfl _ hke
    have hzl := cz_len Z
    have HZ := Hid.mk (And.intro (cz_one w Z hZi) (And.intro hZ hZi))
    rw [hZl] at hzl
    rw [hKe] at hK ⊢
    have HN := Hid.mk (show ∀ (v' : Value) (w' : World), w'.ownsRow w.heap.size 43 2 v' K (cz Z) → CRow w w' w.heap.size v' Z from fun v' w' hh => ⟨by rw [hZl]; exact hh, hZi⟩)
    generalize hnews : cz Z = news at *
    clear he hke h hKe hZ hZi hZc hZl hnews
    go_enter Try.func35, Try.ntmps35
    go_wp2_with (at_builtin; refine wpList_append_own _ rfl (.tmp 5) (.tmp 6) 35 rfl w.heap.size 43 i0 (.agg #[.slice none 0 0, .int .i64 0]) 2 32 Try.underlying35 hi hz0 hz1 hz2 rfl (by decide) _ _ _ rfl HE.out.1 a K cap news rfl hzl HC.out ?c2 ?c3 ?c4 ?c5 ?_)
    case c2 => exact HZ.out.1
    case c3 => unfold maxLen; omega
    case c4 => omega
    case c5 => simp
    · intro v' w1 hown hgrow _
      have hk : More w w1 := HE.out.2.grown hgrow (by simp) (fun k hk => (HE.out.1.lt k hk).1)
      have HO : Hid _ := And.intro (HN.out v' w1 (by simpa using hown)) hk
      clear hown hgrow hk HE HN
      go_wp2
      go_ret
      exact ⟨_, Z, rfl, HZ.out.2.1, HO.out.1, HO.out.2⟩

set_option maxRecDepth 1000000 in
theorem sort_clo (u v : Value) (f g : List Int) (M N : Int) (w : World) (hu : IL w u f) (hv : IL w v g) (hf : f.length ≤ 1000000) (hg : g.length ≤ 1000000) :
    Calls Try.prog 37 #[.agg #[u, .int .i64 M], .agg #[v, .int .i64 N]] w fun e w' => e = .returned (.int .i64 (cmpL f g)) ∧ ∃ q os', w' = Go.Sort.grow (w.drewN q) os' := by
  obtain ⟨uo, uc, rfl⟩ := hu.shape
  obtain ⟨vo, vc, rfl⟩ := hv.shape
  have hcm := gr_cmp _ _ f g ((w.alloc (.cells #[.slice uo f.length uc, .int .i64 M] 43)).alloc (.cells #[.slice vo g.length vc, .int .i64 N] 43)) (hu.more (More.trans (more_alloc _ _) (more_alloc _ _))) (hv.more (More.trans (more_alloc _ _) (more_alloc _ _))) hf hg
  generalize cmpL f g = C at *
  clear hu hv
  generalize f.length = m1 at *
  generalize g.length = m2 at *
  go_enter Try.func37, Try.ntmps37
  go_wp2_with (go_at_call 8; refine hcm.mono ?_; rintro e w' ⟨rfl, hw'⟩; subst w')
  go_ret
  exact ⟨rfl, 0, _, by rw [Go.Sort.alloc_eq_grow, Go.Sort.alloc_eq_grow, Go.Sort.grow_grow]; rfl⟩
end Go.Proofs.Yteiegedffjkbeaa
