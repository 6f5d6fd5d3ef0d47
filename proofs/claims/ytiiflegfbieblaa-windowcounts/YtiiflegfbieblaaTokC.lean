/-
  The document's Same: are two lists of texts the same?
-/
import Derived.Test.YtiiflegfbieblaaTokB
namespace Go.Proofs.Ytiiflegfbieblaa
open Go.RowKit

/-- A list of texts as read: one of the call's own, or an argument. -/
def ARd (w : World) (v : Value) (ts : List (List UInt8)) : Prop :=
  (ts = [] ∧ ∃ ao cap, v = .slice ao 0 cap) ∨ ∃ g o cap, v = .slice (some ⟨g, o, none⟩) ts.length cap ∧ ∀ k, k < ts.length → w.cell? ⟨g, o + k, none⟩ = some (.string (bs (ts.getD k [])))
theorem SRd.ard {w : World} {v : Value} {ts : List (List UInt8)} (h : SRd w v ts) : ARd w v ts := by
  rcases h.form with ⟨h1, h2⟩ | ⟨g, cap, h1, _, h2⟩
  · exact .inl ⟨h1, none, 0, h2⟩
  · exact .inr ⟨g, 0, cap, h1, fun k hk => by rw [Nat.zero_add]; exact h2 k hk⟩
theorem ARd.shape {w : World} {v : Value} {ts : List (List UInt8)} (h : ARd w v ts) : ∃ ao cap, v = .slice ao ts.length cap := by
  rcases h with ⟨h1, ao, cap, h2⟩ | ⟨g, o, cap, h1, _⟩
  · exact ⟨ao, cap, by rw [h1]; exact h2⟩
  · exact ⟨_, _, h1⟩
theorem ARd.more {w w' : World} {v : Value} {ts : List (List UInt8)} (h : ARd w v ts) (k : More w w') : ARd w' v ts := by
  rcases h with h | ⟨g, o, cap, h1, h2⟩
  · exact .inl h
  · exact .inr ⟨g, o, cap, h1, fun j hj => (k.cell (World.block_lt_of_cell? _ _ (h2 j hj))).trans (h2 j hj)⟩
theorem drewN_two (w : World) (m k : Nat) : (w.drewN m).drewN k = w.drewN (m + k) := by simp [World.drewN, Nat.add_assoc]
theorem bs_neq (a b : List UInt8) : ((bs a).toList == (bs b).toList) = decide (a = b) := by rw [bs_list, bs_list]; exact beq_decide a b
theorem lists_same {ts us : List (List UInt8)} (hl : ts.length = us.length) (h : ∀ j, j < ts.length → ts.getD j [] = us.getD j []) : ts = us := by
  apply List.ext_getElem hl
  intro j h1 h2
  have := h j h1
  simpa [List.getD, List.getElem?_eq_getElem h1, List.getElem?_eq_getElem h2] using this

set_option maxRecDepth 1000000 in
set_option maxHeartbeats 3200000 in
theorem rf_same (va vb : Value) (ts us : List (List UInt8)) (w : World) (ha : ARd w va ts) (hb : ARd w vb us) (hn : ts.length ≤ 1000000) (hn2 : us.length ≤ 1000000) :
    Calls Try.prog 24 #[va, vb] w fun e w' => e = .returned (.bool (decide (ts = us))) ∧ ∃ m, w' = w.drewN m := by
  by_cases hl : ts.length = us.length
  · by_cases h0 : ts.length = 0
    · obtain ⟨ao, ca, rfl⟩ := ha.shape
      obtain ⟨bo, cb, rfl⟩ := hb.shape
      have hD : Hid (decide (ts = us) = true) := Hid.mk (decide_eq_true (lists_same hl fun j hj => by omega))
      generalize decide (ts = us) = D at *
      rw [← hl, h0]
      clear ha hb hl h0 hn hn2
      go_enter Try.func24, Try.ntmps24
      go_wp2
      go_loop [5] (fun k => k = .int .i64 0) (fun _ => 0)
      case atStart => rfl
      case round =>
        obtain rfl := hrel
        go_wp2
        go_ret
        exact ⟨ret_bool hD.out.symm, 0, rfl⟩
    · rcases ha with ⟨rfl, _⟩ | ⟨ga, oa, ca, rfl, cA⟩
      · exact absurd rfl h0
      rcases hb with ⟨rfl, _⟩ | ⟨gb, ob, cb, rfl, cB⟩
      · exact absurd hl h0
      have HD := Hid.mk (And.intro (fun h : ∀ j, j < ts.length → ts.getD j [] = us.getD j [] => (decide_eq_true (lists_same hl h) : decide (ts = us) = true)) (fun (j : Nat) (h : ts.getD j [] ≠ us.getD j []) => (decide_eq_false (fun e => h (by rw [e])) : decide (ts = us) = false)))
      rw [← hl] at cB ⊢
      generalize decide (ts = us) = D at *
      obtain ⟨n, hnn⟩ : ∃ n, ts.length = n := ⟨_, rfl⟩
      rw [hnn] at cA cB hn HD ⊢
      clear hl h0 hn2 hnn
      go_enter Try.func24, Try.ntmps24
      go_wp2
      go_loopw [5] (fun k wr => ∃ r : Nat, r ≤ n ∧ k = .int .i64 r ∧ (∀ j, j < r → ts.getD j [] = us.getD j []) ∧ ∃ m, wr = w.drewN m) (fun k _ => n - (intOf k).toNat)
      case atStart => exact ⟨0, by omega, rfl, (fun j h => by omega), 0, rfl⟩
      case round =>
        obtain ⟨r, hr, rfl, hsame, m, hwr⟩ := hrel
        have HS := Hid.mk hsame
        clear hsame
        by_cases hlt : r < n
        · have c1 : wr.cell? ⟨ga, oa + r, none⟩ = some (.string (bs (ts.getD r []))) := by rw [hwr]; exact cA r hlt
          have c2 : wr.cell? ⟨gb, ob + r, none⟩ = some (.string (bs (us.getD r []))) := by rw [hwr]; exact cB r hlt
          have HW := Hid.mk hwr
          have hE := bs_neq (ts.getD r []) (us.getD r [])
          have HT := Hid.mk (And.intro (fun h : ts.getD r [] = us.getD r [] => h) (HD.out.2 r))
          clear hwr cA cB
          obtain ⟨x, hx⟩ : ∃ x, ts.getD r [] = x := ⟨_, rfl⟩
          obtain ⟨y, hy⟩ : ∃ y, us.getD r [] = y := ⟨_, rfl⟩
          rw [hx, hy] at HT hE
          rw [hx] at c1
          rw [hy] at c2
          have HX := Hid.mk (And.intro hx hy)
          clear hx hy
          by_cases hxy : x = y
          · subst hxy
            go_wp2_with fail
            go_quiet (fail)
            go_wp2
            go_roundw
            case rel => exact ⟨r + 1, by omega, by go_num, (fun j hj => by
              by_cases hjr : j = r
              · subst hjr; rw [HX.out.1, HX.out.2]
              · exact HS.out j (by omega)), _, by rw [HW.out]; exact drewN_two _ _ _⟩
            case measure => simp [intOf]; omega
          · rw [decide_eq_false hxy] at hE
            have hE2 : ¬ (bs x).toList = (bs y).toList := by rw [bs_list, bs_list]; exact hxy
            have HR := Hid.mk (HT.out.2 hxy)
            clear HT
            go_wp2_with fail
            go_quiet (fail)
            go_wp2
            go_ret
            exact ⟨ret_bool HR.out.symm, _, by rw [HW.out]; exact drewN_two _ _ _⟩
        · obtain rfl : r = n := by omega
          have HR := Hid.mk (HD.out.1 HS.out)
          have HW := Hid.mk hwr
          clear hwr
          go_wp2
          go_ret
          exact ⟨ret_bool HR.out.symm, _, HW.out⟩
  · obtain ⟨ao, ca, rfl⟩ := ha.shape
    obtain ⟨bo, cb, rfl⟩ := hb.shape
    have hD : Hid (decide (ts = us) = false) := Hid.mk (decide_eq_false fun e => hl (by rw [e]))
    generalize decide (ts = us) = D at *
    clear ha hb
    generalize ts.length = a at *
    generalize us.length = b at *
    have h1 : ¬ ((a : Int) = (b : Int)) := by omega
    have h2 : ((a : Int) == (b : Int)) = false := beq_eq_false_iff_ne.2 h1
    go_enter Try.func24, Try.ntmps24
    go_wp2
    go_ret
    exact ⟨ret_bool hD.out.symm, 0, rfl⟩
end Go.Proofs.Ytiiflegfbieblaa
