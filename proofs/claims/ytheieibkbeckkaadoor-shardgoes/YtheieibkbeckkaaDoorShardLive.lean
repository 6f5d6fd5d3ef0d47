/-
  The chapter's example holds.
-/
import Derived.Test.YtheieibkbeckkaaDoorShardF
import Derived.Test.YtheieibkbeckkaaDoorShardG
import Derived.ChangeKeysEq
namespace Go.Proofs.YtheieibkbeckkaaDoor
open Go.RowKit

def f34 (i : Nat) : Nat := if i < 32 then i + 1 else 7000
theorem f34_climbs : Climbs f34 34 := ⟨fun i hi => by unfold f34; split <;> omega, fun i hi => by unfold f34; split <;> split <;> omega⟩

theorem two_cell (w : World) (u v : Value) (e : TypeId) : ∀ (j : Nat) x, [u, v][j]? = some x → (w.alloc (.cells #[u, v] e)).cell? ((⟨w.heap.size, 0, none⟩ : Addr).add j) = some x := by
  intro j x hj
  match j, hj with
  | 0, hj => simp at hj; subst hj; simp [Addr.add]
  | 1, hj => simp at hj; subst hj; simp [Addr.add]
theorem two_i64 (x y : Int) : ∀ u ∈ [Value.int .i64 x, Value.int .i64 y], u.oneCell' = true := by intro u hu; simp at hu; rcases hu with rfl | rfl <;> rfl

theorem cellsInt : Tryd.prog.cellsOf 3 = 1 := by kernel_rfl
theorem same3 (x y z : Int) (w : World) : (Op.equalIn 10000 36 (.agg #[.int .i64 x, .int .i64 y, .int .i64 z]) (.agg #[.int .i64 x, .int .i64 y, .int .i64 z])).run Tryd.prog w = .ok true w := by
  obtain ⟨i0, hi, _⟩ := info_parts Tryd.infoInt
  rw [show (10000 : Nat) = 9999 + 1 from rfl, run_equalIn_array w 9999 _ _ Tryd.underlying36 hi, cellsInt, show List.range 3 = [0, 1, 2] from rfl]
  have hp : ∀ (v0 v1 v2 : Value) (w : World), (part 3 #[v0, v1, v2] 0).run Tryd.prog w = .ok v0 w := fun v0 v1 v2 w => by simp [go_sem]
  simp [Op.eqItems, go_sem]
theorem own_cap {w : World} {base n cap : Nat} {e : TypeId} {ao : Option Addr} {xs : List Value} (h : w.ownsRow base e 1 (.slice ao n cap) n xs) : n ≤ cap := by
  rcases h.2 with ⟨h1, h2⟩ | ⟨g, c, cur, hv, _, _, hle, _⟩
  · simp at h1; omega
  · simp at hv; obtain ⟨_, rfl⟩ := hv; exact hle

set_option maxHeartbeats 1600000 in
set_option maxRecDepth 1000000 in
theorem sh_live (w : World) : Calls Tryd.prog 5 #[] w fun e w' => e = .returned (.bool true) ∧ More w w' := by
  obtain ⟨i0, hi, hz0, hz1, hz2⟩ := info_parts Tryd.infoInt
  have hnx : ∀ (s base : Nat) (w : World), ShAt w base s f34 34 → Calls Tryd.prog 9 #[.pointer (some ⟨s, 0, none⟩), .int .i64 33] w fun e w' => e = .returned (.tuple #[.int .i64 32, .int .i64 7000]) ∧ More w w' := fun s base w h => by
    have := sh_next base s f34 34 33 w h (by decide)
    rwa [show nextZ f34 34 33 = 32 by decide +kernel, show atZ f34 34 32 = 7000 by decide +kernel] at this
  have hat : ∀ (s base : Nat) (w : World), ShAt w base s f34 34 → Calls Tryd.prog 11 #[.pointer (some ⟨s, 0, none⟩), .int .i64 32] w fun e w' => e = .returned (.int .i64 7000) ∧ More w w' := fun s base w h => by
    have := sh_at base s f34 34 32 w h
    rwa [show atZ f34 34 32 = 7000 by decide +kernel] at this
  have hki : ∀ (s base : Nat) (w : World), ShAt w base s f34 34 → Calls Tryd.prog 10 #[.pointer (some ⟨s, 0, none⟩)] w fun e w' => e = .returned (.agg #[.int .i64 1, .int .i64 1, .int .i64 0]) ∧ More w w' := fun s base w h => by
    have := sh_kinds base s f34 34 w h
    rwa [show kcnt f34 34 0 (prts 34) = 1 by decide +kernel, show kcnt f34 34 1 (prts 34) = 1 by decide +kernel, show kcnt f34 34 2 (prts 34) = 0 by decide +kernel] at this
  have hs3 := same3 1 1 0
  go_enter Tryd.func5, Tryd.ntmps5
  go_wp2
  go_loopw [1, 2] (fun vl i wr => ∃ k a : Nat, k ≤ 32 ∧ a ≤ 33 ∧ i = .int .i64 a ∧ Hid (a = k + 1 ∧ wr.ownsRow w.heap.size 3 1 vl k (ints f34 k) ∧ More w wr)) (fun _ i _ => 40 - (intOf i).toNat)
  case atStart => exact ⟨0, 1, Nat.zero_le _, by omega, rfl, Hid.mk ⟨rfl, World.ownsRow_nil _ _ _ _, Below.refl _ _⟩⟩
  case round =>
    obtain ⟨k, a, hk, ha, rfl, HR⟩ := hrel
    obtain ⟨af, cf, rfl⟩ := shape_of HR.out.2.1
    by_cases hkK : a ≤ 32
    · have hk' : k < 32 := by have := HR.out.1; omega
      have hfa : f34 k = a := by unfold f34; rw [if_pos hk']; exact HR.out.1.symm
      have HF := Hid.mk hfa
      clear hfa ha
      go_wp2_with (at_builtin; refine wpList_append_lies _ rfl (.tmp 11) (.tmp 13) 22 rfl w.heap.size 3 i0 (.int .i64 0) 1 8 Tryd.underlying22 hi hz0 hz1 hz2 rfl (by decide) _ _ _ rfl (HR.out.2.1.alloc _) ⟨wr.heap.size, 0, none⟩ 1 1 [.int .i64 (a : Int)] rfl rfl (one_cell _ _ _) (one_i64 _) (by decide) (by unfold maxLen; omega) (by omega) (by have := HR.out.2.2.size; simp; omega) (wr.heap.size + 1) (by simp) ?_
                   intro g1 cg1 w2 hown hgr _ _
                   have hm2 : More w w2 := (HR.out.2.2.alloc HR.out.2.2.size _).grown hgr (by have := HR.out.2.2.size; simp; omega) (fun k hk => (HR.out.2.1.lt k hk).1)
                   rw [← HF.out, ← ints_succ] at hown
                   have H2 := Hid.mk (And.intro hown hm2)
                   clear hown hgr hm2)
      exact ⟨⟨k + 1, a + 1, by omega, by omega, by go_num, Hid.mk ⟨by have := HR.out.1; omega, H2.out⟩⟩, by simp [intOf]; omega⟩
    · obtain rfl : k = 32 := by have := HR.out.1; omega
      clear hk ha
      go_wp2_with (first
        | (at_builtin; refine wpList_append_lies _ rfl (.tmp 15) (.tmp 16) 22 rfl w.heap.size 3 i0 (.int .i64 0) 1 8 Tryd.underlying22 hi hz0 hz1 hz2 rfl (by decide) _ _ _ rfl (HR.out.2.1.alloc _) ⟨wr.heap.size, 0, none⟩ 2 2 [.int .i64 7000, .int .i64 7000] rfl rfl (two_cell _ _ _ _) (two_i64 _ _) (by decide) (by unfold maxLen; omega) (by omega) (by have := HR.out.2.2.size; simp; omega) (wr.heap.size + 1) (by simp) ?_
           intro g1 cg1 w2 hown hgr _ _
           have hm2 : More w w2 := (HR.out.2.2.alloc HR.out.2.2.size _).grown hgr (by have := HR.out.2.2.size; simp; omega) (fun k hk => (HR.out.2.1.lt k hk).1)
           have he : ints f34 32 ++ [.int .i64 7000, .int .i64 7000] = ints f34 34 := by rw [ints_succ f34 33, ints_succ f34 32]; simp [f34]
           rw [he] at hown
           have hnew := sh_new _ 34 cg1 f34 w2 (zrd_of_own hown) (own_cap hown) f34_climbs (by decide)
           have H2 := Hid.mk hm2
           clear hown hgr hm2 he)
        | (go_at_call 6; refine hnew.mono ?_; rintro e w3 ⟨s, rfl, hs, hm⟩; have H3 := Hid.mk (And.intro hs (More.trans H2.out hm)); clear hs hm hnew)
        | (go_at_call 9; refine (hnx s _ w3 H3.out.1).mono ?_; rintro e w4 ⟨rfl, hm⟩; have H4 := Hid.mk (And.intro (H3.out.1.more hm) (More.trans H3.out.2 hm)); clear hm hnx)
        | (go_at_call 10; refine (hki s _ w4 H4.out.1).mono ?_; rintro e w5 ⟨rfl, hm⟩; have H5 := Hid.mk (And.intro (H4.out.1.more hm) (More.trans H4.out.2 hm)); clear hm hki)
        | (go_at_call 11; refine (hat s _ w5 H5.out.1).mono ?_; rintro e w6 ⟨rfl, hm⟩; have H6 := Hid.mk (More.trans H5.out.2 hm); clear hm hat))
      go_ret
      exact ⟨rfl, H6.out⟩

end Go.Proofs.YtheieibkbeckkaaDoor
