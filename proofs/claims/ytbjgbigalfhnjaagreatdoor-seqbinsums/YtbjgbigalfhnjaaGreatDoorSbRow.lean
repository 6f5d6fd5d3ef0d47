/-
  seqbin's cells and PutRow: a row's bytes are written.
-/
import Derived.Test.YtbjgbigalfhnjaaGreatDoorSet01
import Derived.Test.YtbjgbigalfhnjaaGreatDoorSet13
import Derived.Test.YtbjgbigalfhnjaaGreatDoorSet11
namespace Go.Proofs.YtbjgbigalfhnjaaGreatDoor
open Go.RowKit

theorem cells8 (n : Nat) (hn : n ≤ 9223372036854775807) (w : World) : Calls Tryz.prog 40 #[.int .i64 n, .int .i64 8] w fun e w' => e = .returned (.int .i64 (nby n : Nat)) ∧ w' = w := by
  go_enter Tryz.func40, Tryz.ntmps40
  go_wp2
  all_goals go_ret
  · rename_i h
    have h1 : (n : Int) % 8 ≠ 0 := by simpa using h
    have : (n : Int) / 8 + 1 = ((nby n : Nat) : Int) := by rw [nby_is]; omega
    exact ⟨by simp [this], rfl⟩
  · rename_i h
    have h1 : (n : Int) % 8 = 0 := by simpa using h
    have : (n : Int) / 8 = ((nby n : Nat) : Int) := by rw [nby_is]; omega
    exact ⟨by simp [this], rfl⟩
theorem cells64 (n : Nat) (hn : n ≤ 9223372036854775807) (w : World) : Calls Tryz.prog 40 #[.int .i64 n, .int .i64 64] w fun e w' => e = .returned (.int .i64 (nw n : Nat)) ∧ w' = w := by
  go_enter Tryz.func40, Tryz.ntmps40
  go_wp2
  all_goals go_ret
  · rename_i h
    have h1 : (n : Int) % 64 ≠ 0 := by simpa using h
    have : (n : Int) / 64 + 1 = ((nw n : Nat) : Int) := by unfold nw; omega
    exact ⟨by simp [this], rfl⟩
  · rename_i h
    have h1 : (n : Int) % 64 = 0 := by simpa using h
    have : (n : Int) / 64 = ((nw n : Nat) : Int) := by unfold nw; omega
    exact ⟨by simp [this], rfl⟩

theorem RowRd.more {w w' : World} {b V n : Nat} (h : RowRd w b V n) (k : More w w') : RowRd w' b V n := by
  have hc : ∀ {p : Addr} {v : Value}, w.cell? p = some v → w'.cell? p = some v := fun hp => (World.cell?_of_block (k.block _ (World.block_lt_of_cell? w _ hp))).trans hp
  exact ⟨h.fit, h.len, hc h.c1, h.c0.imp (fun ⟨h1, ao, cap, h2⟩ => ⟨h1, ao, cap, hc h2⟩) fun ⟨g, cap, h1, h2⟩ => ⟨g, cap, hc h1, fun j hj => hc (h2 j hj)⟩⟩

/-- Cells of bytes. -/
def u8f (f : Nat → Nat) (K : Nat) : List Value := (List.range K).map fun i => Value.int .u8 (f i : Nat)
theorem u8f_len (f : Nat → Nat) (K : Nat) : (u8f f K).length = K := by simp [u8f]
theorem u8f_get (f : Nat → Nat) (K i : Nat) (h : i < K) : (u8f f K)[i]? = some (.int .u8 (f i : Nat)) := by simp [u8f, h]
/-- The first k bytes of a row, noughts behind them. -/
def byTo (V k i : Nat) : Nat := if i < k then V / 256 ^ i % 256 else 0
theorem byTo_set (V k K : Nat) : (u8f (byTo V k) K).set k (.int .u8 (V / 256 ^ k % 256 : Nat)) = u8f (byTo V (k + 1)) K := by
  apply List.ext_getElem?
  intro i
  by_cases hi : i < K
  · rw [u8f_get _ _ _ hi, List.getElem?_set]
    by_cases h : k = i
    · subst h; simp [u8f_len, hi, byTo]
    · rw [if_neg h, u8f_get _ _ _ hi]
      unfold byTo
      by_cases h2 : i < k
      · rw [if_pos h2, if_pos (by omega)]
      · rw [if_neg h2, if_neg (by omega)]
  · rw [List.getElem?_eq_none (by simp [u8f_len]; omega), List.getElem?_eq_none (by simp [u8f_len]; omega)]
theorem byTo_none (V K : Nat) : (madeCells (Value.int IntKind.u8 0).cells (K * 1)).toList = u8f (byTo V 0) K := by
  apply List.ext_getElem?
  intro i
  by_cases hi : i < K
  · rw [u8f_get _ _ _ hi]
    simp [madeCells, byTo, hi, Value.cells, Nat.mod_one]
  · rw [List.getElem?_eq_none (by simp [madeCells]; omega), List.getElem?_eq_none (by simp [u8f_len]; omega)]
theorem cut_byte (V k : Nat) : cutV V ((k * 8 : Nat) : Int) 8 = V / 256 ^ k % 256 := by
  unfold cutV
  rw [if_neg (by omega), Int.toNat_natCast, Nat.mul_comm k 8, Nat.pow_mul]

set_option maxHeartbeats 800000 in
set_option maxRecDepth 1000000 in
theorem sb_putRow (base wb b V n : Nat) (l : List UInt8) (w : World) (h : WrAt w base wb l) (hr : RowRd w b V n) (hn : n ≤ 1000000) (hl : l.length ≤ 1000000) :
    Calls Tryz.prog 17 #[.pointer (some ⟨wb, 0, none⟩), .pointer (some ⟨b, 0, none⟩)] w fun e w' => e = .returned (.tuple #[]) ∧ WrAt w' base wb (l ++ rby V n) ∧ KeepsT WT base w w' := by
  obtain ⟨i0, hi, hz0, hz1, hz2⟩ := info_parts Tryz.info5
  have hlen := row_len b n w hr.c1
  have hce := fun w => cells8 n (by omega) w
  have hKb : nby n ≤ 1000000 := by rw [nby_is]; omega
  have hrl := rby_len V n
  have hra := fun i hi => rby_at V n i hi
  obtain ⟨L, hL⟩ : ∃ L, rby V n = L := ⟨_, rfl⟩
  obtain ⟨K, hK⟩ : ∃ K, nby n = K := ⟨_, rfl⟩
  rw [hK] at hce hKb hrl hra
  rw [hL] at hrl hra ⊢
  have HH := Hid.mk (And.intro h (And.intro hr (And.intro hrl hra)))
  clear h hr hL hK hrl hra
  go_enter Tryz.func17, Tryz.ntmps17
  go_wp2_with (first
    | (go_at_call 41; refine hlen.mono ?_; rintro e w' ⟨rfl, hw⟩; subst w')
    | (go_at_call 40; refine (hce _).mono ?_; rintro e w' ⟨rfl, hw⟩; subst w')
    | (refine wpList_make_full _ rfl _ _ 31 rfl w.heap.size 5 i0 (.int .u8 0) 1 Tryz.underlying31 hi hz0 hz1 .i64 .i64 K K K rfl rfl rfl rfl (by rw [hz2]; omega) (by unfold maxLen; omega) (Nat.le_refl _) ?_; intro w1 hown hg; have H1 := Hid.mk (And.intro hown hg); clear hown hg))
  have hs1 : w.heap.size < w1.heap.size := by
    rcases H1.out.1.2 with ⟨h, _⟩ | ⟨g, c, cur, h, _, hg, _⟩
    · cases h
    · simp at h; obtain ⟨rfl, _⟩ := h; exact lt_of_block hg
  have hm1 : More w w1 := ⟨H1.out.2.os, H1.out.2.tape, H1.out.2.output, H1.out.2.size, fun k hk => H1.out.2.block k hk (by simp)⟩
  have h0 := H1.out.1
  rw [byTo_none V K] at h0
  go_loopw [12] (fun i wr => ∃ k : Nat, k ≤ K ∧ i = .int .i64 k ∧ Hid (wr.ownsRow w.heap.size 5 1 (.slice (some ⟨w.heap.size, 0, none⟩) K K) K (u8f (byTo V k) K) ∧ More w wr ∧ w.heap.size < wr.heap.size)) (fun i _ => K - (intOf i).toNat)
  case atStart => exact ⟨0, Nat.zero_le _, rfl, Hid.mk ⟨h0, hm1, hs1⟩⟩
  case round =>
    obtain ⟨k, hk, rfl, HR⟩ := hrel
    by_cases hkK : k < K
    · have hcut := row_cut b V n ((k * 8 : Nat) : Int) 8 wr (HH.out.2.1.more HR.out.2.1) (by omega) (by omega)
      rw [show min 64 (8 : Int).toNat = 8 by decide, cut_byte V k, Int.natCast_mul] at hcut
      have hXb : V / 256 ^ k % 256 < 256 := Nat.mod_lt _ (by decide)
      obtain ⟨X, hX⟩ : ∃ X, V / 256 ^ k % 256 = X := ⟨_, rfl⟩
      rw [hX] at hcut hXb
      have HX := Hid.mk hX
      have hwX : IntKind.u8.wrap (X : Int) = X := by rw [IntKind.wrap_u8]; omega
      have hfz : ∀ m, (wr.drewN m).frozen? ⟨w.heap.size, k, none⟩ = false := fun m => HR.out.1.frozenAt k
      have hcl : ∀ m, (wr.drewN m).cell? ⟨w.heap.size, k, none⟩ = some (.int .u8 (byTo V k k : Nat)) := fun m => by
        have := HR.out.1.cellAt k (by omega)
        rw [u8f_get _ _ _ hkK] at this
        exact this
      clear hX
      go_wp2_with (go_at_call 42; refine hcut.mono ?_; rintro e w' ⟨rfl, m, hw⟩; subst w')
      refine ⟨⟨k + 1, by omega, by go_num, Hid.mk ?_⟩, by simp [intOf]; omega⟩
      have hs := (HR.out.1.stored k (.int .u8 (X : Nat))).1
      rw [← HX.out, byTo_set V k K, HX.out] at hs
      exact ⟨hs, (More.trans HR.out.2.1 (More.drewN wr m)).setCell (p := ⟨w.heap.size, k, none⟩) (Nat.le_refl _) _, Nat.lt_of_lt_of_le HR.out.2.2 ((Below.refl 0 (wr.drewN m)).setCell (p := ⟨w.heap.size, k, none⟩) (Nat.zero_le _) _).size⟩
    · obtain rfl : k = K := by omega
      have hconv : (convert 31 9 (.slice (some ⟨w.heap.size, 0, none⟩) k k)).run Tryz.prog wr = .ok (.string (bs L)) wr := by
        have hll := HH.out.2.2.1
        have := run_convert_bytes_back (P := Tryz.prog) wr 31 9 5 ⟨w.heap.size, 0, none⟩ k L Tryz.underlying31 Tryz.underlying5 Tryz.underlying9 (fun j hj => ?_)
        · rw [hll] at this; exact this
        · rw [Addr.add_lit, Nat.zero_add, HR.out.1.cellAt j (by omega), u8f_get _ _ _ (by omega)]
          have hb := HH.out.2.2.2 j (by omega)
          have : (L[j]).toNat = bt L j := by unfold bt; rw [List.getElem?_eq_getElem hj]; rfl
          rw [byTo, if_pos (by omega), ← hb, ← this]
      have hraw := wr_raw base wb l L wr (HH.out.1.more HR.out.2.1) (by omega) (by rw [HH.out.2.2.1]; omega)
      clear hkK hk
      go_wp2_with (go_at_call 43; refine hraw.mono ?_; rintro e w3 ⟨rfl, hw3, hk3⟩; have H3 := Hid.mk (And.intro hw3 hk3); clear hw3 hk3)
      first | go_ret | go_end0
      exact ⟨rfl, H3.out.1, (KeepsT.more HR.out.2.1 HH.out.1.sz).trans H3.out.2⟩

end Go.Proofs.YtbjgbigalfhnjaaGreatDoor
