/-
  The document's GetPack.
-/
import Derived.Test.YtbfolfacppbalaaDoorSbPack
namespace Go.Proofs.YtbfolfacppbalaaDoor
open Go.RowKit

/-- What the document's GetPack tells. -/
structure DocPack (w : World) (base x : Nat) (l : List UInt8) (d n : Nat) (v : List UInt8) (t er : Nat) (e : Ending) (w' : World) : Prop where
  keeps : KeepsT XT base w w'
  what : (er ≠ 0 ∧ XAt w' base x (l.drop t) er ∧ ∃ s, e = .returned (.tuple #[.int .i64 d, s])) ∨
    (er = 0 ∧ ofB v < 2 ^ (d * n) ∧ XAt w' base x (l.drop t) 0 ∧ ∃ s, e = .returned (.tuple #[.int .i64 d, s]) ∧ w'.ownsRow w.heap.size 77 1 s n (u64s (fun i => ofB v / 2 ^ (d * i) % 2 ^ d) n)) ∨
    (er = 0 ∧ ¬ ofB v < 2 ^ (d * n) ∧ XAt w' base x (l.drop t) 3 ∧ ∃ s, e = .returned (.tuple #[.int .i64 d, s]))

set_option maxHeartbeats 1600000 in
set_option maxRecDepth 1000000 in
theorem rsb_getPack (base x E d n t1 er1 t2 er2 t3 er : Nat) (v l : List UInt8) (w : World) (h : XAt w base x l E) (hR : ReadsP l E d n v t1 er1 t2 er2 t3 er) :
    Calls Tryd.prog 31 #[.pointer (some ⟨x, 0, none⟩)] w fun e w' => DocPack w base x l d n v (t1 + t2 + t3) er e w' := by
  have h1 := ref_rupto base x t1 er1 E d 64 l w h (by decide) hR.one
  have hb1 := st_bnd hR.one
  have hb2 := st_bnd hR.two
  have h2 := fun w1 (h : XAt w1 base x (l.drop t1) er1) => ref_rupto base x t2 er2 er1 n 1048576 (l.drop t1) w1 h (by decide) hR.two
  have hd : d ≤ 64 := by omega
  have hn : n ≤ 1048576 := by omega
  have h3 := hR.three
  rw [← List.drop_drop] at h3
  obtain ⟨B, hB⟩ : ∃ B, d * n = B := ⟨_, rfl⟩
  have hBb : B ≤ 67108864 := by rw [← hB]; exact Nat.mul_le_mul hd hn
  have hmul : (d : Int) * (n : Int) = (B : Int) := by rw [← hB, Int.natCast_mul]
  have hwB : IntKind.i64.wrap (B : Int) = B := by rw [IntKind.wrap_i64]; omega
  rw [hB] at h3
  have hdrop : ∀ t, ((l.drop t1).drop t2).drop t = l.drop (t1 + t2 + t) := fun t => by rw [List.drop_drop, List.drop_drop, Nat.add_assoc]
  by_cases h0 : er = 0
  · subst h0
    by_cases hfit : ofB v < 2 ^ B
    · have hrow := fun w1 (h : XAt w1 base x ((l.drop t1).drop t2) er2) => docRow_row base x er2 B t3 (B : Int) v _ w1 h (by omega) (by omega) h3 hfit
      obtain ⟨ib, hib, hib0, hib1, hib2⟩ := info_parts Tryd.info36
      obtain ⟨V, hVe⟩ : ∃ V, ofB v = V := ⟨_, rfl⟩
      rw [hVe] at hrow hfit
      have HH := Hid.mk (And.intro (show ofB v < 2 ^ (d * n) by rw [hB, hVe]; exact hfit) (And.intro hdrop (And.intro hVe (And.intro hfit hB))))
      clear h hR h3 hfit hb1 hb2 hB hdrop hVe
      go_enter Tryd.func31, Tryd.ntmps31
      go_wp2_with (first
        | (go_at_call 66; refine h1.mono ?_; rintro e w1 ⟨rfl, hx1, hk1⟩; have H1 := Hid.mk (And.intro hx1 hk1); clear hx1 hk1 h1)
        | (go_at_call 66; refine (h2 w1 H1.out.1).mono ?_; rintro e w2 ⟨rfl, hx2, hk2⟩; have H2 := Hid.mk (And.intro hx2 (H1.out.2.trans hk2)); clear hx2 hk2 h2)
        | (go_at_call 17; refine (hrow w2 H2.out.1).mono ?_; rintro e w3 ⟨s, rfl, hs3, hx3, hk3⟩; obtain ⟨sa, cs, rfl⟩ := shape_of hs3; obtain ⟨d0, d1, y0, y1⟩ := wcells2 hx3.mem; have H3 := Hid.mk (And.intro (brd_of_own hs3) (And.intro hx3 (H2.out.2.trans hk3))); clear hs3 hx3 hk3))
      go_loopw [7, 8] (fun o i wr => ∃ k : Nat, i = .int .i64 k ∧ k ≤ n ∧ Hid (wr.ownsRow w3.heap.size 77 1 o k (u64s (fun i => V / 2 ^ (d * i) % 2 ^ d) k) ∧ More w3 wr)) (fun _ i _ => n - (intOf i).toNat)
      case atStart => exact ⟨0, rfl, Nat.zero_le _, Hid.mk ⟨World.ownsRow_nil _ _ _ _, Below.refl _ _⟩⟩
      case round =>
        obtain ⟨k, rfl, hk, HR⟩ := hrel
        obtain ⟨af, cf, rfl⟩ := shape_of HR.out.1
        have hxr := H3.out.2.1.more HR.out.2
        obtain ⟨f0, f1, g0, g1⟩ := wcells2 hxr.mem
        by_cases hkn : k < n
        · have hdk : d * k ≤ 67108864 := Nat.mul_le_mul hd (show k ≤ 1048576 by omega)
          have hcut := ref_cut _ B V ((d * k : Nat) : Int) (d : Int) wr (H3.out.1.more HR.out.2) HH.out.2.2.2.1 (by omega) (by omega) (by omega)
          rw [show min 64 (d : Int).toNat = d by omega, cutV_low V d k] at hcut
          obtain ⟨W, hW⟩ : ∃ W, d * k = W := ⟨_, rfl⟩
          have f5 : (k : Int) * (d : Int) = (W : Int) := by rw [← hW, Int.natCast_mul, Int.mul_comm]
          have hwW : IntKind.i64.wrap (W : Int) = W := by rw [IntKind.wrap_i64]; omega
          obtain ⟨X, hX⟩ : ∃ X, V / 2 ^ (d * k) % 2 ^ d = X := ⟨_, rfl⟩
          rw [hX, hW] at hcut
          have HX := Hid.mk hX
          have hsw := HR.out.2.size
          clear hX hW hxr
          go_wp2_with (first
            | (go_at_call 54; refine hcut.mono ?_; rintro e w' ⟨rfl, hw⟩; subst w')
            | (at_builtin; refine wpList_append_own _ rfl (.tmp 30) (.tmp 37) 47 rfl w3.heap.size 77 ib (.int .u64 0) 1 8 Tryd.underlying47 hib hib0 hib1 hib2 rfl (by decide) _ _ _ rfl (HR.out.1.alloc _) ⟨_, 0, none⟩ 1 1 [.int .u64 (X : Int)] rfl rfl (one_cell _ _ _) (one_u64 _) (by unfold maxLen; omega) (by omega) (by simp; omega) ?_))
          intro v4 w4 hown4 hgrow4 _
          rw [← HX.out, ← u64s_succ (fun i => V / 2 ^ (d * i) % 2 ^ d) k] at hown4
          have hm4 : More w3 w4 := (Below.alloc HR.out.2 hsw _).grown hgrow4 (by simp; omega) (fun j hj => (HR.out.1.lt j hj).1)
          have H4 := Hid.mk (And.intro hown4 hm4)
          clear hown4 hgrow4 hm4
          go_wp2
          exact ⟨⟨k + 1, by go_num, by omega, H4⟩, by simp [intOf]; omega⟩
        · obtain rfl : n = k := by omega
          have HX := Hid.mk hxr
          clear hxr
          go_wp2
          go_ret2
          refine ⟨H3.out.2.2.trans (KeepsT.more HR.out.2 H3.out.2.1.sz), .inr (.inl ⟨rfl, HH.out.1, by rw [← HH.out.2.1]; exact HX.out, _, rfl, ?_⟩)⟩
          rw [HH.out.2.2.1]
          exact own_lower HR.out.1 H3.out.2.2.below.size
    · have hrow := fun w1 (h : XAt w1 base x ((l.drop t1).drop t2) er2) => docRow_form base x er2 B t3 (B : Int) v _ w1 h (by omega) (by omega) h3 hfit
      have HH := Hid.mk (And.intro (show ¬ ofB v < 2 ^ (d * n) by rw [hB]; exact hfit) hdrop)
      clear h hR h3 hfit hb1 hb2 hB hdrop
      go_enter Tryd.func31, Tryd.ntmps31
      go_wp2_with (first
        | (go_at_call 66; refine h1.mono ?_; rintro e w1 ⟨rfl, hx1, hk1⟩; have H1 := Hid.mk (And.intro hx1 hk1); clear hx1 hk1 h1)
        | (go_at_call 66; refine (h2 w1 H1.out.1).mono ?_; rintro e w2 ⟨rfl, hx2, hk2⟩; have H2 := Hid.mk (And.intro hx2 (H1.out.2.trans hk2)); clear hx2 hk2 h2)
        | (go_at_call 17; refine (hrow w2 H2.out.1).mono ?_; rintro e w3 ⟨rfl, hx3, hk3⟩; obtain ⟨d0, d1, y0, y1⟩ := wcells2 hx3.mem; have H3 := Hid.mk (And.intro hx3 (H2.out.2.trans hk3)); clear hx3 hk3))
      refine wp_loop_rounds 1 ?_
      rw [rounds_succ]
      by_cases hn0 : (0 : Int) < (n : Int)
      all_goals
        go_wp2
        go_ret2
        exact ⟨H3.out.2, .inr (.inr ⟨rfl, HH.out.1, by rw [← HH.out.2]; exact H3.out.1, _, rfl⟩)⟩
  · have hrow := fun w1 (h : XAt w1 base x ((l.drop t1).drop t2) er2) => docRow_err base x er2 B t3 er (B : Int) v _ w1 h (by omega) (by omega) h3 h0
    have h0' : ¬ (er : Int) = 0 := by omega
    have HH := Hid.mk hdrop
    clear h hR h3 hb1 hb2 hB hdrop
    go_enter Tryd.func31, Tryd.ntmps31
    go_wp2_with (first
      | (go_at_call 66; refine h1.mono ?_; rintro e w1 ⟨rfl, hx1, hk1⟩; have H1 := Hid.mk (And.intro hx1 hk1); clear hx1 hk1 h1)
      | (go_at_call 66; refine (h2 w1 H1.out.1).mono ?_; rintro e w2 ⟨rfl, hx2, hk2⟩; have H2 := Hid.mk (And.intro hx2 (H1.out.2.trans hk2)); clear hx2 hk2 h2)
      | (go_at_call 17; refine (hrow w2 H2.out.1).mono ?_; rintro e w3 ⟨rfl, hx3, hk3⟩; obtain ⟨d0, d1, y0, y1⟩ := wcells2 hx3.mem; have H3 := Hid.mk (And.intro hx3 (H2.out.2.trans hk3)); clear hx3 hk3))
    refine wp_loop_rounds 1 ?_
    rw [rounds_succ]
    by_cases hn0 : (0 : Int) < (n : Int)
    all_goals
      go_wp2
      go_ret2
      exact ⟨H3.out.2, .inl ⟨h0, by rw [← HH.out]; exact H3.out.1, _, rfl⟩⟩

end Go.Proofs.YtbfolfacppbalaaDoor
