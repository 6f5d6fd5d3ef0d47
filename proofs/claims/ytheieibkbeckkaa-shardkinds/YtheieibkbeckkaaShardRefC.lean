/-
  The document's shard: Size.
-/
import Derived.Test.YtheieibkbeckkaaShardRefB
namespace Go.Proofs.Ytheieibkbeckkaa
open Go.RowKit

set_option maxHeartbeats 3200000 in
set_option maxRecDepth 1000000 in
theorem refs_size (ao : Option Addr) (n cap : Nat) (f : Nat → Nat) (w : World) (h : ZRd w (.slice ao n cap) n (fun j => (f j : Int))) (hC : Climbs f n) (hn : n ≤ 1000) (hcap : n ≤ cap) :
    Calls Try.prog 17 #[.slice ao n cap] w fun e w' => e = .returned (.int .i64 (shSize f n : Nat)) ∧ More w w' := by
  obtain ⟨i0, hi, hz0, hz1, hz2⟩ := info_parts Try.infoInt
  have hpr : prts n ≤ 32 := by unfold prts; omega
  have hpa := fun w' (hm : More w w') => refs_parts _ n _ w' (h.more hm) hn
  have HH := Hid.mk (And.intro h hC)
  obtain ⟨K, hK⟩ : ∃ K, prts n = K := ⟨_, rfl⟩
  rw [hK] at hpa hpr
  have HK := Hid.mk hK
  obtain ⟨Z, hZ⟩ : ∃ Z, shSize f n = Z := ⟨_, rfl⟩
  rw [hZ]
  have HZ := Hid.mk hZ
  clear h hC hK hZ
  go_enter Try.func17, Try.ntmps17
  go_wp2
  go_loopw [3, 4, 5] (fun vf z i wr => ∃ k S : Nat, k ≤ K ∧ S ≤ 50000 ∧ z = .int .i64 S ∧ i = .int .i64 k ∧ Hid (S = tot f n k ∧ wr.ownsRow w.heap.size 3 1 vf k (ints (frs f) k) ∧ More w wr)) (fun _ _ i _ => K - (intOf i).toNat)
  case atStart => exact ⟨0, 0, Nat.zero_le _, by omega, rfl, rfl, Hid.mk ⟨rfl, World.ownsRow_nil _ _ _ _, Below.refl _ _⟩⟩
  case round =>
    obtain ⟨k, S, hk, hS, rfl, rfl, HR⟩ := hrel
    obtain ⟨af, cf, rfl⟩ := shape_of HR.out.2.1
    have hpa' := hpa wr HR.out.2.2
    by_cases hkK : k < K
    · have hkp : k < prts n := by rw [HK.out]; exact hkK
      obtain ⟨bl, o, rfl, _⟩ := HH.out.1.cell (w' := wr) 0 (by have := prts_lt hkp; omega)
      have hpt := refs_part bl o n cap k wr hn hcap hkp
      have hrd := fun w' (hm : More w w') => part_rd (HH.out.1.more hm) k hkp
      have hM1 := prtn_pos hkp
      have hM2 := prtn_le n k
      have hts : tot f n (k + 1) = tot f n k + psz (prt f k) (prtn n k) := rfl
      have htl := tot_le HH.out.2 (k + 1)
      have hcl := prt_climbs HH.out.2 k
      have hfr : frs f k = prt f k 0 := rfl
      obtain ⟨g, hg⟩ : ∃ g, prt f k = g := ⟨_, rfl⟩
      rw [hg] at hrd hts hcl hfr
      generalize prtn n k = M at *
      generalize o + 32 * k = o' at *
      generalize cap - 32 * k = c' at *
      obtain ⟨b', oo, he, hc⟩ := (hrd wr HR.out.2.2).cell (w' := wr) 0 (by omega)
      simp at he
      obtain ⟨rfl, rfl⟩ := he
      have hc0 := hc (Below.refl _ _)
      rw [Nat.add_zero] at hc0
      clear hc
      obtain ⟨y, hy⟩ : ∃ y, g 0 = y := ⟨_, rfl⟩
      rw [hy] at hc0 hfr
      have HG := Hid.mk (And.intro hrd (And.intro hcl (And.intro hts (And.intro htl (And.intro hy hfr)))))
      clear hrd hts htl hcl hy hfr hpa hkp hcap hg
      go_wp2_with (first
        | (go_at_call 23; refine hpa'.mono ?_; rintro e w' ⟨rfl, hw⟩; subst w'; clear hpa')
        | (go_at_call 25; refine hpt.mono ?_; rintro e w' ⟨rfl, hw⟩; subst w'; clear hpt)
        | (at_builtin; refine wpList_append_lies _ rfl (.tmp 18) (.tmp 22) 22 rfl w.heap.size 3 i0 (.int .i64 0) 1 8 Try.underlying22 hi hz0 hz1 hz2 rfl (by decide) _ _ _ rfl (HR.out.2.1.alloc _) ⟨wr.heap.size, 0, none⟩ 1 1 [.int .i64 (y : Int)] rfl rfl (one_cell _ _ _) (one_i64 _) (by decide) (by unfold maxLen; omega) (by omega) (by have := HR.out.2.2.size; simp; omega) (wr.heap.size + 1) (by simp) ?_
           intro g1 cg1 w2 hown hgr _ _
           have hm2 : More w w2 := (HR.out.2.2.alloc HR.out.2.2.size _).grown hgr (by have := HR.out.2.2.size; simp; omega) (fun k hk => (HR.out.2.1.lt k hk).1)
           rw [← HG.out.2.2.2.2.2, ← ints_succ] at hown
           have H2 := Hid.mk (And.intro hown hm2)
           clear hown hgr hm2))
      go_loopw [7, 8] (fun vm i wi => ∃ j : Nat, j ≤ M ∧ i = .int .i64 j ∧ Hid (wi.ownsRow w2.heap.size 3 1 vm j (ints (dif g) j) ∧ More w2 wi)) (fun _ i _ => M - (intOf i).toNat)
      case atStart => exact ⟨0, Nat.zero_le _, rfl, Hid.mk ⟨World.ownsRow_nil _ _ _ _, Below.refl _ _⟩⟩
      case round =>
        obtain ⟨j, hj, rfl, HI⟩ := hrel
        obtain ⟨am, cm, rfl⟩ := shape_of HI.out.1
        have hmi := More.trans H2.out.2 HI.out.2
        by_cases hjM : j < M
        · obtain ⟨b', oo, he, hc⟩ := (HG.out.1 wr hmi).cell (w' := wr) j hjM
          simp at he
          obtain ⟨rfl, rfl⟩ := he
          have hcj := hc (Below.refl _ _)
          clear hc
          obtain ⟨b', oo, he, hc⟩ := (HG.out.1 wr hmi).cell (w' := wr) 0 (by omega)
          simp at he
          obtain ⟨rfl, rfl⟩ := he
          have hci := hc (Below.refl _ _)
          rw [Nat.add_zero, HG.out.2.2.2.2.1] at hci
          clear hc hc0
          have hx1 := HG.out.2.1.top j hjM
          have hy1 := HG.out.2.1.mono (Nat.zero_le j) hjM
          rw [HG.out.2.2.2.2.1] at hy1
          obtain ⟨x, hx⟩ : ∃ x, g j = x := ⟨_, rfl⟩
          have hdf : dif g j = x - y := by unfold dif; rw [hx, HG.out.2.2.2.2.1]
          rw [hx] at hcj hx1 hy1
          obtain ⟨X, hX⟩ : ∃ X, x - y = X := ⟨_, rfl⟩
          have hsub : (x : Int) - (y : Int) = (X : Int) := by omega
          have hwX : IntKind.i64.wrap (X : Int) = (X : Int) := by rw [IntKind.wrap_i64]; omega
          have HX := Hid.mk (show dif g j = X by omega)
          have Hmi := Hid.mk hmi
          have hM0 : 0 < M := by omega
          clear hx hX hdf hmi
          go_wp2_with fail
          go_region_law (refine step_append_lies _ rfl (.tmp 30) (.tmp 39) 22 rfl w2.heap.size 3 i0 (.int .i64 0) 1 8 Try.underlying22 hi hz0 hz1 hz2 rfl (by decide) _ _ _ rfl ((More.own HI.out.1 (More.drewN _ 1)).alloc _) ⟨wr.heap.size, 0, none⟩ 1 1 [.int .i64 (X : Int)] rfl rfl (one_cell _ _ _) (one_i64 _) (by decide) (by unfold maxLen; omega) (by omega) (by have := HI.out.2.size; simp; omega) (wr.heap.size + 1) (by simp) ?_
                         intro g3 cg3 w3 hown hgr _ _
                         have hm3 : More w2 w3 := (Below.alloc (More.trans HI.out.2 (More.drewN _ 1)) (by have := HI.out.2.size; simp; omega) _).grown hgr (by have := HI.out.2.size; simp; omega) (fun k hk => (HI.out.1.lt k hk).1)
                         rw [← HX.out, ← ints_succ] at hown
                         have H3 := Hid.mk (And.intro hown hm3)
                         clear hown hgr hm3)
          all_goals
            go_wp2
            exact ⟨⟨j + 1, by omega, by go_num, H3⟩, by simp [intOf]; omega⟩
        · obtain rfl : j = M := by omega
          have hkd := refs_kind _ j g wr (HG.out.1 wr hmi) HG.out.2.1.top (by omega)
          have hsz := fun w' (hm : More wr w') => ref_size _ j (dif g) w' (zrd_of_own (More.own HI.out.1 hm)) (dif_climbs HG.out.2.1) (by omega)
          have hts := HG.out.2.2.1
          have htl := HG.out.2.2.2.1
          have hSt := HR.out.1
          have Hmi := Hid.mk hmi
          clear hmi hjM hj hc0
          by_cases h2 : kind g j = 2
          · have hpz : psz g j = sizeN (dif g) (wdt (dif g) j) j := by unfold psz; rw [if_pos h2]
            rw [h2] at hkd
            rw [hpz] at hts
            generalize sizeN (dif g) (wdt (dif g) j) j = z at *
            obtain ⟨S', hS'⟩ : ∃ S', S + z = S' := ⟨_, rfl⟩
            have hsm : (S : Int) + (z : Int) = (S' : Int) := by omega
            have hS2 : S' ≤ 50000 := by omega
            have hwS : IntKind.i64.wrap (S' : Int) = (S' : Int) := by rw [IntKind.wrap_i64]; omega
            have HX := Hid.mk (show S' = tot f n (k + 1) by omega)
            clear hts htl hSt h2 hpz hS'
            go_wp2_with (first
              | (go_at_call 24; refine hkd.mono ?_; rintro e w3 ⟨rfl, q, hw⟩; have H3 : Hid (More wr w3) := Hid.mk (by rw [hw]; exact More.drewN _ _); clear hkd hw)
              | (go_at_call 26; refine (hsz _ H3.out).mono ?_; rintro e w' ⟨rfl, hw⟩; subst w'; clear hsz))
            exact ⟨⟨k + 1, S', by omega, hS2, rfl, by go_num, Hid.mk ⟨HX.out, More.own H2.out.1 (More.trans HI.out.2 H3.out), More.trans Hmi.out H3.out⟩⟩, by simp [intOf]; omega⟩
          · have hpz : psz g j = 0 := by unfold psz; rw [if_neg h2]
            rw [hpz] at hts
            have hkn : ((kind g j : Nat) : Int) ≠ 2 := by omega
            generalize kind g j = t at *
            have HX := Hid.mk (show S = tot f n (k + 1) by omega)
            clear hts htl hSt h2 hpz hsz
            go_wp2_with (go_at_call 24; refine hkd.mono ?_; rintro e w3 ⟨rfl, q, hw⟩; have H3 : Hid (More wr w3) := Hid.mk (by rw [hw]; exact More.drewN _ _); clear hkd hw)
            exact ⟨⟨k + 1, S, by omega, hS, rfl, by go_num, Hid.mk ⟨HX.out, More.own H2.out.1 (More.trans HI.out.2 H3.out), More.trans Hmi.out H3.out⟩⟩, by simp [intOf]; omega⟩
    · obtain rfl : k = K := by omega
      have hfs := ref_size _ k (frs f) wr (zrd_of_own HR.out.2.1) (by rw [← HK.out]; exact frs_climbs HH.out.2) (by omega)
      have hsb := size_bound (frs_climbs HH.out.2)
      rw [HK.out] at hsb
      have hsum : Z = sizeN (frs f) (wdt (frs f) k) k + tot f n k := by rw [← HZ.out, ← HK.out]; rfl
      generalize sizeN (frs f) (wdt (frs f) k) k = A at *
      have hz : (S : Int) + (A : Int) = (Z : Int) := by have := HR.out.1; omega
      have hwZ : IntKind.i64.wrap (Z : Int) = (Z : Int) := by rw [IntKind.wrap_i64]; omega
      clear hkK hk hpa hsum
      go_wp2_with (first
        | (go_at_call 23; refine hpa'.mono ?_; rintro e w' ⟨rfl, hw⟩; subst w'; clear hpa')
        | (go_at_call 26; refine hfs.mono ?_; rintro e w' ⟨rfl, hw⟩; subst w'; clear hfs))
      go_ret
      exact ⟨rfl, HR.out.2.2⟩

end Go.Proofs.Ytheieibkbeckkaa
