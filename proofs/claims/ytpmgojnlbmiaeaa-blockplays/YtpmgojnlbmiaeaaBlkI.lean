/-
  block: New, Alloc, Write, Read, Free.
-/
import Derived.Test.YtpmgojnlbmiaeaaBlkH
namespace Go.Proofs.Ytpmgojnlbmiaeaa
open Go.RowKit

/-- A store at block b, of whose memory nothing more is said. -/
def SX (w : World) (base b size most N : Nat) (tk : Nat → Bool) (tx : Nat → List UInt8) : Prop := ∃ vo vf vb F, St w base b size most N vo vf tk tx vb F
theorem SX.more {w w' : World} {base b size most N : Nat} {tk : Nat → Bool} {tx : Nat → List UInt8} (h : SX w base b size most N tk tx) (k : More w w') : SX w' base b size most N tk tx := by
  obtain ⟨vo, vf, vb, F, h⟩ := h
  exact ⟨vo, vf, vb, F, h.more k⟩

set_option maxRecDepth 1000000 in
theorem st_New (size most : Nat) (h1 : 1 ≤ size) (h2 : size ≤ 65536) (h3 : 1 ≤ most) (h4 : most ≤ 1048576) (tk : Nat → Bool) (tx : Nat → List UInt8) (w : World) :
    Calls Try.prog 7 #[.int .i64 size, .int .i64 most] w fun e w' => e = .returned (.tuple #[.pointer (some ⟨w.heap.size, 0, none⟩), .int .i64 0]) ∧ SX w' w.heap.size w.heap.size size most 0 tk tx ∧ More w w' := by
  have hS : SX (w.alloc (.cells #[.int .i64 size, .int .i64 most, .slice none 0 0, .slice none 0 0] 52)) w.heap.size w.heap.size size most 0 tk tx := by
    refine ⟨.slice none 0 0, .slice none 0 0, fun _ => .slice none 0 0, [], ⟨⟨Nat.le_refl _, by simp, heap_alloc_new w _, ?_, World.ownsRow_nil _ _ _ _, fun k hk => by omega, fun j k hj => by omega⟩, Stp.new _ _ _, h2, h4⟩⟩
    exact World.ownsRow_nil _ _ _ _
  go_enter Try.func7, Try.ntmps7
  go_wp2
  go_ret2
  exact ⟨rfl, hS, more_alloc w _⟩
set_option maxRecDepth 1000000 in
theorem st_New_bad (size most : Int) (h : ¬ (1 ≤ size ∧ size ≤ 65536 ∧ 1 ≤ most ∧ most ≤ 1048576)) (w : World) :
    Calls Try.prog 7 #[.int .i64 size, .int .i64 most] w fun e w' => e = .returned (.tuple #[.pointer none, .int .i64 1]) ∧ w' = w := by
  by_cases a1 : size < 1
  · clear h
    go_enter Try.func7, Try.ntmps7
    go_wp2
    go_ret2
    exact ⟨rfl, rfl⟩
  · by_cases a2 : 65536 < size
    · clear h
      go_enter Try.func7, Try.ntmps7
      go_wp2
      go_ret2
      exact ⟨rfl, rfl⟩
    · by_cases a3 : most < 1
      · clear h
        go_enter Try.func7, Try.ntmps7
        go_wp2
        go_ret2
        exact ⟨rfl, rfl⟩
      · have a4 : 1048576 < most := by omega
        clear h
        go_enter Try.func7, Try.ntmps7
        go_wp2
        go_ret2
        exact ⟨rfl, rfl⟩

section
variable {w : World} {base b size most N : Nat} {tk : Nat → Bool} {tx : Nat → List UInt8}
set_option maxRecDepth 1000000 in
theorem st_Alloc_full (h : SX w base b size most N tk tx) (hc : cnt tk N = most) :
    Calls Try.prog 16 #[.pointer (some ⟨b, 0, none⟩)] w fun e w' => e = .returned (.tuple #[.int .i64 0, .int .i64 6]) ∧ ∃ q, w' = w.drewN q := by
  obtain ⟨vo, vf, vb, F, h⟩ := h
  have hle := st_Left h
  rw [hc, Int.sub_self] at hle
  clear h hc
  go_enter Try.func16, Try.ntmps16
  go_wp2_with (go_at_call 11; refine hle.mono ?_; rintro e w1 ⟨rfl, q, rfl⟩)
  go_ret2
  exact ⟨rfl, q, rfl⟩
set_option maxHeartbeats 1000000 in
set_option maxRecDepth 1000000 in
theorem st_Alloc (h : SX w base b size most N tk tx) (hc : cnt tk N < most) :
    Calls Try.prog 16 #[.pointer (some ⟨b, 0, none⟩)] w fun e w' => ∃ a : Nat, e = .returned (.tuple #[.int .i64 a, .int .i64 0]) ∧ First tk N a ∧ SX w' base b size most (max N (a + 1)) (upd tk a true) (upd tx a []) ∧ KeepsT BT base w w' := by
  obtain ⟨vo, vf, vb, F, h⟩ := h
  have hle := st_Left h
  have hnz : ¬ ((most : Int) - cnt tk N = 0) := by omega
  obtain ⟨M, hM⟩ : ∃ M : Int, (most : Int) - cnt tk N = M := ⟨_, rfl⟩
  rw [hM] at hle hnz
  have hlf := fun q => st_leastFree (h.more (More.drewN w q)) hc
  have hN := h.plain.le
  have hmo := h.mostLe
  have H := Hid.mk h
  clear h hc hM
  go_enter Try.func16, Try.ntmps16
  go_wp2_with (first
    | (go_at_call 11; refine hle.mono ?_; clear hle; rintro e w1 ⟨rfl, q, rfl⟩)
    | (go_at_call 25; refine (hlf q).mono ?_; clear hlf; rintro e w2 ⟨a, rfl, hO⟩; obtain ⟨hfst, hK, N', vo', vf', tk', vb', G, hN', hS, hu, hP⟩ := hO; have haN : a < N' := (by omega); obtain ⟨g, cap, cur, rfl, _⟩ := shape_some hS.row (by omega); obtain ⟨_, _, c2, _⟩ := wcells4 hS.box; obtain ⟨ca, _, _, ff⟩ := hS.cell haN; have fa := ff (a * 3); obtain ⟨hS3, hK3⟩ := hS.setTk haN true; rw [hu] at hS3; have hNm := hP.le; have H2 := Hid.mk (And.intro hfst (And.intro hN' (And.intro hS3 (And.intro hP (hK.trans hK3))))); clear hfst hN' hS hS3 hK hK3 hu hP ff))
  go_ret2
  refine ⟨a, rfl, H2.out.1, ?_, (KeepsT.more (More.drewN w q) H.out.mem.sz).trans H2.out.2.2.2.2⟩
  rw [← H2.out.2.1]
  exact ⟨_, _, _, _, H2.out.2.2.1, H2.out.2.2.2.1, H.out.sizeLe, H.out.mostLe⟩

set_option maxRecDepth 1000000 in
theorem st_Write_no (h : SX w base b size most N tk tx) (id : Int) (hn : ¬ Has N tk id) (h1 : -9223372036854775808 ≤ id) (h2 : id ≤ 9223372036854775807) (s : Value) :
    Calls Try.prog 17 #[.pointer (some ⟨b, 0, none⟩), .int .i64 id, s] w fun e w' => e = .returned (.int .i64 7) ∧ w' = w := by
  obtain ⟨vo, vf, vb, F, h⟩ := h
  have hck := st_check_no h id hn h1 h2
  clear h hn h1 h2
  go_enter Try.func17, Try.ntmps17
  go_wp2_with (go_at_call 22; refine hck.mono ?_; rintro e w1 ⟨rfl, hw'⟩; subst w1)
  go_ret
  exact ⟨rfl, rfl⟩
set_option maxRecDepth 1000000 in
theorem st_Write_long (h : SX w base b size most N tk tx) {k : Nat} (hk : k < N) (ht : tk k = true) (t : List UInt8) (hl : size < t.length) :
    Calls Try.prog 17 #[.pointer (some ⟨b, 0, none⟩), .int .i64 k, .string (bs t)] w fun e w' => e = .returned (.int .i64 5) ∧ w' = w := by
  obtain ⟨vo, vf, vb, F, h⟩ := h
  have hck := st_check_yes h hk ht
  obtain ⟨c0, _⟩ := wcells4 h.mem.box
  have hsz : (bs t).size = t.length := bs_size t
  generalize t.length = L at *
  clear h hk ht
  go_enter Try.func17, Try.ntmps17
  go_wp2_with (go_at_call 22; refine hck.mono ?_; rintro e w1 ⟨rfl, hw'⟩; subst w1)
  go_ret
  exact ⟨rfl, rfl⟩
set_option maxHeartbeats 1000000 in
set_option maxRecDepth 1000000 in
theorem st_Write (h : SX w base b size most N tk tx) {k : Nat} (hk : k < N) (ht : tk k = true) (t : List UInt8) (hl : t.length ≤ size) :
    Calls Try.prog 17 #[.pointer (some ⟨b, 0, none⟩), .int .i64 k, .string (bs t)] w fun e w' => e = .returned (.int .i64 0) ∧ SX w' base b size most N tk (upd tx k t) ∧ KeepsT BT base w w' := by
  obtain ⟨vo, vf, vb, F, h⟩ := h
  have hck := st_check_yes h hk ht
  obtain ⟨c0, _, c2, _⟩ := wcells4 h.mem.box
  have hsz : (bs t).size = t.length := bs_size t
  obtain ⟨g, cap, cur, rfl, _⟩ := shape_some h.mem.row (by omega)
  have hwr := bk_write h.mem hk t (by have := h.sizeLe; omega)
  have hN := h.plain.le
  have hmo := h.mostLe
  have H := Hid.mk (And.intro h ht)
  generalize t.length = L at *
  clear h ht
  go_enter Try.func17, Try.ntmps17
  go_wp2_with (first
    | (go_at_call 22; refine hck.mono ?_; rintro e w1 ⟨rfl, hw'⟩; subst w1)
    | (go_at_call 26; refine hwr.mono ?_; clear hwr; rintro e w2 ⟨rfl, vb', hS2, hK2⟩; have H2 := Hid.mk (And.intro hS2 hK2); clear hS2 hK2))
  go_ret
  exact ⟨rfl, ⟨_, _, _, _, H2.out.1, H.out.1.plain.wrote H.out.2 t, H.out.1.sizeLe, H.out.1.mostLe⟩, H2.out.2⟩

set_option maxRecDepth 1000000 in
theorem st_Read_no (h : SX w base b size most N tk tx) (id : Int) (hn : ¬ Has N tk id) (h1 : -9223372036854775808 ≤ id) (h2 : id ≤ 9223372036854775807) :
    Calls Try.prog 13 #[.pointer (some ⟨b, 0, none⟩), .int .i64 id] w fun e w' => e = .returned (.tuple #[.string (bs []), .int .i64 7]) ∧ w' = w := by
  obtain ⟨vo, vf, vb, F, h⟩ := h
  have hck := st_check_no h id hn h1 h2
  clear h hn h1 h2
  go_enter Try.func13, Try.ntmps13
  go_wp2_with (go_at_call 22; refine hck.mono ?_; rintro e w1 ⟨rfl, hw'⟩; subst w1)
  go_ret2
  exact ⟨rfl, rfl⟩
set_option maxRecDepth 1000000 in
theorem st_Read (h : SX w base b size most N tk tx) {k : Nat} (hk : k < N) (ht : tk k = true) :
    Calls Try.prog 13 #[.pointer (some ⟨b, 0, none⟩), .int .i64 k] w fun e w' => e = .returned (.tuple #[.string (bs (tx k)), .int .i64 0]) ∧ ∃ q, w' = w.drewN q := by
  obtain ⟨vo, vf, vb, F, h⟩ := h
  have hck := st_check_yes h hk ht
  obtain ⟨_, _, c2, _⟩ := wcells4 h.mem.box
  obtain ⟨g, cap, cur, rfl, _⟩ := shape_some h.mem.row (by omega)
  have htx := bk_text h.mem hk
  have hN := h.plain.le
  have hmo := h.mostLe
  clear h ht
  go_enter Try.func13, Try.ntmps13
  go_wp2_with (first
    | (go_at_call 22; refine hck.mono ?_; rintro e w1 ⟨rfl, hw'⟩; subst w1)
    | (go_at_call 23; refine htx.mono ?_; rintro e w2 ⟨rfl, q, rfl⟩))
  go_ret2
  exact ⟨rfl, q, rfl⟩

set_option maxRecDepth 1000000 in
theorem st_Free_no (h : SX w base b size most N tk tx) (id : Int) (hn : ¬ Has N tk id) (h1 : -9223372036854775808 ≤ id) (h2 : id ≤ 9223372036854775807) :
    Calls Try.prog 18 #[.pointer (some ⟨b, 0, none⟩), .int .i64 id] w fun e w' => e = .returned (.int .i64 7) ∧ w' = w := by
  obtain ⟨vo, vf, vb, F, h⟩ := h
  have hck := st_check_no h id hn h1 h2
  clear h hn h1 h2
  go_enter Try.func18, Try.ntmps18
  go_wp2_with (go_at_call 22; refine hck.mono ?_; rintro e w1 ⟨rfl, hw'⟩; subst w1)
  go_ret
  exact ⟨rfl, rfl⟩
set_option maxHeartbeats 1000000 in
set_option maxRecDepth 1000000 in
theorem st_Free (h : SX w base b size most N tk tx) {k : Nat} (hk : k < N) (ht : tk k = true) :
    Calls Try.prog 18 #[.pointer (some ⟨b, 0, none⟩), .int .i64 k] w fun e w' => e = .returned (.int .i64 0) ∧ SX w' base b size most N (upd tk k false) (upd tx k []) ∧ KeepsT BT base w w' := by
  obtain ⟨vo, vf, vb, F, h⟩ := h
  have hck := st_check_yes h hk ht
  obtain ⟨_, _, c2, _⟩ := wcells4 h.mem.box
  obtain ⟨g, cap, cur, rfl, _⟩ := shape_some h.mem.row (by omega)
  have her := bk_erase h.mem hk
  have hN := h.plain.le
  have hmo := h.mostLe
  have hF : F.length ≤ 1900000 := by have := h.plain.num; omega
  have H := Hid.mk (And.intro h ht)
  clear h ht
  go_enter Try.func18, Try.ntmps18
  go_wp2_with (first
    | (go_at_call 22; refine hck.mono ?_; rintro e w1 ⟨rfl, hw'⟩; subst w1)
    | (go_at_call 27; refine her.mono ?_; clear her; rintro e w2 ⟨rfl, hS2, hK2⟩; obtain ⟨_, _, c2, _⟩ := wcells4 hS2.box; obtain ⟨ca, _, _, ff⟩ := hS2.cell hk; have fa := ff (k * 3); obtain ⟨hS3, hK3⟩ := hS2.setTk hk false; have hps := hp_Push _ _ _ _ _ _ _ _ _ _ _ _ k hF hS3 H.out.1.plain.heap; have H3 := Hid.mk (hK2.trans hK3); clear hS2 hS3 hK2 hK3 ff)
    | (go_at_call 28; refine hps.mono ?_; clear hps; rintro e w4 ⟨rfl, vf', G, hS4, hP4, hG4, hK4⟩; have H4 := Hid.mk (And.intro hS4 (And.intro hP4 (And.intro hG4 hK4))); clear hS4 hP4 hG4 hK4))
  go_ret
  exact ⟨rfl, ⟨_, _, _, _, H4.out.1, H.out.1.plain.freed hk H.out.2 H4.out.2.1 H4.out.2.2.1, H.out.1.sizeLe, H.out.1.mostLe⟩, H3.out.trans H4.out.2.2.2⟩
end
end Go.Proofs.Ytpmgojnlbmiaeaa
