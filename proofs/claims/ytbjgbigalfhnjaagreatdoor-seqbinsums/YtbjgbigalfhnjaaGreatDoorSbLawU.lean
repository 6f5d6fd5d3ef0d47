/-
  SeqbinSums, all cases together.
-/
import Derived.Test.YtbjgbigalfhnjaaGreatDoorSet24
namespace Go.Proofs.YtbjgbigalfhnjaaGreatDoor
open Go.RowKit

theorem le_bits (n u : Nat) : n ≤ gBits n u := by unfold gBits; exact Nat.le_trans (Nat.le_add_right n _) (Nat.le_add_left _ _)

set_option maxHeartbeats 1600000 in
set_option maxRecDepth 1000000 in
theorem seqbinSums (v : Value) (K : Nat) (g : Nat → Int) (sl : List UInt8) (w : World) (h : ZRd w v K g) (hT : TabIn w) :
    Calls Tryz.prog 3 #[v, .string (bs sl)] w fun e w' => e = .returned (.bool true) ∧ More w w' := by
  have hsz : (bs sl).size = sl.length := bs_size sl
  have hlive := fun (w' : World) (hm : More w w') => sb_live w' (More.tab hT hm)
  by_cases hK : K ≤ 40
  · by_cases hs : sl.length ≤ 200
    · by_cases h0 : Fits g K
      · have h' : ZRd w v K (fun j => (((g j).toNat : Nat) : Int)) := h.congr fun j hj => by have := h0.1 j hj; omega
        obtain ⟨n, u, vv, t1, er1, t2, er2, t3, er, hR⟩ := reads_any sl 0
        have hfew : er = 0 → n ≤ 2400 ∧ gBits n u ≤ 1000000 := fun h0 => by
          have h1 := (hR.few h0).2.2.1
          have h2 := le_bits n u
          exact ⟨by omega, by omega⟩
        by_cases hg : er = 0 ∧ Good n u (ofB vv)
        · obtain ⟨rfl, hg⟩ := hg
          by_cases hn : n = 0 ∨ gF n u (ofB vv) 0 ≠ 0
          · exact sbu_form v K _ sl w h' h0.2 hK hs hT n u t1 er1 t2 er2 t3 vv hR (hfew rfl) hg hn
          · exact sbu_good v K _ sl w h' h0.2 hK hs hT n u t1 er1 t2 er2 t3 vv hR (hfew rfl) hg (by omega) (by omega)
        · exact sbu_bad v K _ sl w h' h0.2 hK hs hT n u t1 er1 t2 er2 t3 er vv hR (fun h => ⟨by have := (hfew h).1; omega, (hfew h).2⟩) hg
      · have hwr := (refx_sums v K g w h (by omega)).mono (fun e w' (hs : SumsOf g K w.heap.size e w' ∧ More w w') => (show e = .returned (.tuple #[.slice none 0 0, .bool false]) ∧ More w w' from by
          rcases hs.1 with ⟨h1, _⟩ | ⟨_, h1⟩
          · exact absurd h1 h0
          · exact ⟨h1, hs.2⟩))
        obtain ⟨ao, cap, rfl⟩ := h.shape
        generalize sl.length = M at *
        clear h hT h0
        go_enter Tryz.func3, Tryz.ntmps3
        go_wp2_with (first
          | (go_at_call 5; refine hwr.mono ?_; rintro e w1 ⟨rfl, hm1⟩; have H1 := Hid.mk hm1; clear hm1 hwr)
          | (go_at_call 4; refine (hlive w1 H1.out).mono ?_; rintro e wz ⟨rfl, hmz⟩; have HZ := Hid.mk (More.trans H1.out hmz); clear hmz))
        go_ret
        exact ⟨rfl, HZ.out⟩
    · obtain ⟨ao, cap, rfl⟩ := h.shape
      have hl := hlive w (Below.refl _ _)
      generalize sl.length = M at *
      clear h hT hlive
      go_enter Tryz.func3, Tryz.ntmps3
      go_wp2_with (go_at_call 4; refine hl.mono ?_; rintro e wz ⟨rfl, hmz⟩; have HZ := Hid.mk hmz; clear hmz)
      go_ret
      exact ⟨rfl, HZ.out⟩
  · obtain ⟨ao, cap, rfl⟩ := h.shape
    have hl := hlive w (Below.refl _ _)
    clear h hT hlive hsz
    go_enter Tryz.func3, Tryz.ntmps3
    go_wp2_with (go_at_call 4; refine hl.mono ?_; rintro e wz ⟨rfl, hmz⟩; have HZ := Hid.mk hmz; clear hmz)
    go_ret
    exact ⟨rfl, HZ.out⟩

end Go.Proofs.YtbjgbigalfhnjaaGreatDoor
