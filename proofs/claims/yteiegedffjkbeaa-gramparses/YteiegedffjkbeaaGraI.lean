/-
  gram: the document's Sum.
-/
import Derived.Test.YteiegedffjkbeaaGraH
namespace Go.Proofs.Yteiegedffjkbeaa
open Go.RowKit

theorem ins_len (l : List CE) (x : CE) : (ins l x).length ≤ l.length + 1 := by
  induction l with
  | nil => simp [ins]
  | cons y l ih =>
    rw [ins]
    split
    · simp only [List.length_cons]; omega
    · split
      · simp
      · simp
theorem sumI_len : ∀ (l : List CE), (sumI l).length ≤ l.length := fun l => by
  suffices hk : ∀ k, k ≤ l.length → (sumI (l.take k)).length ≤ k by have := hk l.length (Nat.le_refl _); rwa [List.take_length] at this
  intro k
  induction k with
  | zero => intro _; simp [sumI]
  | succ k ih =>
    intro hk
    rw [sumI_take l (by omega)]
    have := ins_len (sumI (l.take k)) l[k]
    have := ih (by omega)
    omega
theorem sumI_key (l : List CE) : ∀ z ∈ sumI l, ∃ y ∈ l, z.1 = y.1 := by
  suffices hk : ∀ k, k ≤ l.length → ∀ z ∈ sumI (l.take k), ∃ y ∈ l, z.1 = y.1 by have := hk l.length (Nat.le_refl _); rwa [List.take_length] at this
  intro k
  induction k with
  | zero => intro _ z hz; simp [sumI] at hz
  | succ k ih =>
    intro hk z hz
    rw [sumI_take l (by omega)] at hz
    rcases ins_key _ _ _ hz with e | ⟨y, hy, e⟩
    · exact ⟨l[k], List.getElem_mem _, e⟩
    · obtain ⟨u, hu, e'⟩ := ih (by omega) y hy
      exact ⟨u, hu, by rw [e, e']⟩
theorem Sht.mem {L : List CE} (h : Sht L) : ∀ z ∈ L, z.1.length ≤ 1000000 := fun z hz => by
  obtain ⟨i, hi, rfl⟩ := List.getElem_of_mem hz
  have := h i hi
  rwa [ce_get L hi] at this
theorem Sht.of {L : List CE} (h : ∀ z ∈ L, z.1.length ≤ 1000000) : Sht L := fun i hi => by
  rw [ce_get L hi]
  exact h _ (List.getElem_mem _)
theorem Sht.sum {L : List CE} (h : Sht L) : Sht (sumI L) := Sht.of fun z hz => by
  obtain ⟨y, hy, e⟩ := sumI_key L z hz
  rw [e]; exact h.mem y hy
theorem Sht.take {L : List CE} (h : Sht L) (k : Nat) : Sht (L.take k) := Sht.of fun z hz => h.mem z (List.mem_of_mem_take hz)

set_option maxRecDepth 1000000 in
set_option maxHeartbeats 1600000 in
theorem rf_sum (v : Value) (L : List CE) (w : World) (h : CL w v L) (hl : L.length ≤ 100000) (hs : Sht L) :
    Calls Try.prog 18 #[v] w fun e w' => ∃ r, e = .returned r ∧ CL w' r (sumI L) ∧ More w w' := by
  obtain ⟨ao, cap, rfl⟩ := h.shape
  obtain ⟨n, hnn⟩ : ∃ n, L.length = n := ⟨_, rfl⟩
  have HA := Hid.mk (And.intro (fun j (hj : j < n) => h.at (j := j) (by omega)) (And.intro (fun j (hj : j < n) => hs j (by omega)) (fun j (hj : j < n) => (show sumI (L.take (j + 1)) = putL (sumI (L.take j)) (ce L j) false by rw [sumI_take L (by omega), putL_ins _ _ (sumI_ris _), ce_get L (by omega)]))))
  have HS := Hid.mk (And.intro (fun j => (hs.take j).sum) (And.intro (fun j (hj : j ≤ n) => (show (sumI (L.take j)).length ≤ j by have := sumI_len (L.take j); rw [List.length_take] at this; omega)) (show sumI (L.take n) = sumI L by rw [← hnn, List.take_length])))
  rw [hnn] at hl ⊢
  clear h hnn hs
  go_enter Try.func18, Try.ntmps18
  go_wp2
  go_loopw [3, 4] (fun x k wr => ∃ r : Nat, r ≤ n ∧ k = .int .i64 r ∧ CL wr x (sumI (L.take r)) ∧ More w wr) (fun _ k _ => n - (intOf k).toNat)
  case atStart => exact ⟨0, by omega, rfl, CL.nil _ _ _, More.refl _⟩
  case round =>
    obtain ⟨r, hr, rfl, hC, hM⟩ := hrel
    by_cases hlt : r < n
    · obtain ⟨b, o, uo, uc, rfl, hb, c1, c2, i1⟩ := HA.out.1 r hlt
      have c1 := (hM.cell (p := ⟨b, o + r * 2, none⟩) hb).trans c1
      have c2 := (hM.cell (p := ⟨b, o + r * 2 + 1, none⟩) hb).trans c2
      have hpt := rf_put _ _ _ (ce L r) wr hC (i1.more hM) (by have := HS.out.2.1 r hr; omega) (HS.out.1 r) (HA.out.2.1 r hlt)
      rw [← HA.out.2.2 r hlt] at hpt
      obtain ⟨xo, xc, rfl⟩ := hC.shape
      have HM := Hid.mk hM
      generalize sumI (L.take r) = S at *
      generalize (ce L r).1.length = m1 at *
      generalize (ce L r).2 = N at *
      clear hC hM hb i1
      go_wp2_with (go_at_call 30; refine hpt.mono ?_; rintro e w' ⟨v', Z, rfl, hZ, hCR, hM'⟩; have hcl := hCR.cl hM'; rw [hZ] at hcl; have HN := Hid.mk (And.intro hcl (More.trans HM.out hM')); clear hZ hCR hM' hcl; obtain ⟨yo, yc, rfl⟩ := HN.out.1.shape)
      go_roundw
      case rel => exact ⟨r + 1, by omega, by go_num, HN.out.1, HN.out.2⟩
      case measure => simp [intOf]; omega
    · obtain rfl : r = n := by omega
      rw [HS.out.2.2] at hC
      have HN := Hid.mk (And.intro hC hM)
      clear hC hM
      go_wp2
      go_ret
      exact ⟨_, rfl, HN.out.1, HN.out.2⟩
end Go.Proofs.Yteiegedffjkbeaa
