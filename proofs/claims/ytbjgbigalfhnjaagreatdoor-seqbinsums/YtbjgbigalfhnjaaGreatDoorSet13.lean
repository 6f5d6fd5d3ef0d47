/-
  wire's Reader: Open, Fail, Left, Err, End.
  wire's Writer: Num, Int, Text, Raw, Bytes.
  seqbin's cells and PutRow: a row's bytes are written.
-/
import Derived.Test.YtbjgbigalfhnjaaGreatDoorSet12
import Derived.Test.YtbjgbigalfhnjaaGreatDoorSet01
import Derived.Test.YtbjgbigalfhnjaaGreatDoorSet11
namespace Go.Proofs.YtbjgbigalfhnjaaGreatDoor
open Go.RowKit

set_option maxRecDepth 1000000 in
theorem rd_open (l : List UInt8) (hl : l.length ≤ 100000000) (w : World) : Calls Tryz.prog 9 #[.string (bs l)] w fun e w' => e = .returned (.pointer (some ⟨w.heap.size, 0, none⟩)) ∧ RdAt w' w.heap.size w.heap.size l 0 0 ∧ More w w' := by
  go_enter Tryz.func9, Tryz.ntmps9
  go_wp2
  go_ret
  exact ⟨rfl, ⟨Nat.le_refl _, by simp, Nat.zero_le _, hl, heap_alloc_new _ _⟩, More.alloc _ _⟩

theorem rd_err (base b a E : Nat) (l : List UInt8) (w : World) (h : RdAt w base b l a E) :
    Calls Tryz.prog 16 #[.pointer (some ⟨b, 0, none⟩)] w fun e w' => e = .returned (.int .i64 E) ∧ w' = w := by
  obtain ⟨_, _, c2, _⟩ := wcells3 h.mem
  clear h
  go_enter Tryz.func16, Tryz.ntmps16
  go_wp2
  go_ret
  exact ⟨rfl, rfl⟩

theorem no_err (w : World) : Calls Tryz.prog 16 #[.pointer none] w fun e w' => e = .returned (.int .i64 11) ∧ w' = w := by
  go_enter Tryz.func16, Tryz.ntmps16
  go_wp2
  go_ret
  exact ⟨rfl, rfl⟩

/-- What End tells. -/
def endE (l : List UInt8) (E : Nat) : Nat := if E = 0 ∧ l ≠ [] then 3 else E

set_option maxRecDepth 1000000 in
theorem rd_fail (base b a E F : Nat) (l : List UInt8) (w : World) (h : RdAt w base b l a E) :
    Calls Tryz.prog 27 #[.pointer (some ⟨b, 0, none⟩), .int .i64 F] w fun e w' => e = .returned (.tuple #[]) ∧ RdAt w' base b l a (if E = 0 then F else E) ∧ KeepsT RT base w w' := by
  obtain ⟨_, _, c2, _, _, z2⟩ := wcells3 h.mem
  by_cases h0 : E = 0
  · subst h0
    rw [if_pos rfl]
    have HH := Hid.mk (h.errs (E' := F))
    clear h
    go_enter Tryz.func27, Tryz.ntmps27
    go_wp2
    go_end0
    exact ⟨rfl, HH.out⟩
  · rw [if_neg h0]
    have HH := Hid.mk h
    have hne : ((E : Int) == 0) = false := by simp; omega
    clear h
    go_enter Tryz.func27, Tryz.ntmps27
    go_wp2
    go_end0
    exact ⟨rfl, HH.out, KeepsT.refl _ _ _⟩

theorem no_fail (F : Nat) (w : World) : Calls Tryz.prog 27 #[.pointer none, .int .i64 F] w fun e w' => e = .returned (.tuple #[]) ∧ w' = w := by
  go_enter Tryz.func27, Tryz.ntmps27
  go_wp2
  go_end0
  exact ⟨rfl, rfl⟩

end Go.Proofs.YtbjgbigalfhnjaaGreatDoor

namespace Go.Proofs.YtbjgbigalfhnjaaGreatDoor
open Go.RowKit

theorem or_u8 : ∀ c : Fin 256, bits .or .u8 (c.val : Int) 128 = ((c.val % 128 + 128 : Nat) : Int) := by decide +kernel
theorem low_or (v : Nat) : bits .or .u8 (IntKind.u8.wrap (v : Int)) 128 = ((v % 128 + 128 : Nat) : Int) := by
  have h : IntKind.u8.wrap (v : Int) = ((v % 256 : Nat) : Int) := by rw [IntKind.wrap_u8]; omega
  rw [h, or_u8 ⟨v % 256, Nat.mod_lt _ (by decide)⟩]
  simp only
  congr 2
  omega

theorem Tryz.info5 : (Tryz.prog.info? 5).map (fun i => (i.zero, i.size, i.bytes)) = some (some (.int .u8 0), 1, 1) := by kernel_rfl

/-- A byte has come behind. -/
theorem wr_grown {w w4 : World} {base b n : Nat} {l : List UInt8} {v v' : Value} {o : Obj} {xs : List Value} (h : WrAt w base b l) (hb : w.heap[b]? = some (.cells #[v] 33 (0, 0))) (hv : w.ownsRow base 5 1 v l.length (u8s l))
    (l' : List UInt8) (hn : n = l'.length) (hxs : xs = u8s l') (hown : w4.ownsRow base 5 1 v' n xs) (hg : (w.alloc o).grownBy w4 v.ownBlock) :
    w4.heap[b]? = some (.cells #[v] 33 (0, 0)) ∧ WrAt (w4.setCell ⟨b, 0, none⟩ v') base b l' ∧ KeepsT WT base w (w4.setCell ⟨b, 0, none⟩ v') := by
  subst hn hxs
  have ha : (w.alloc o).heap[b]? = some (.cells #[v] 33 (0, 0)) := (More.alloc w o).at hb
  have h4 : w4.heap[b]? = some (.cells #[v] 33 (0, 0)) := by
    rw [hg.block b (lt_of_block ha) (Ne.symm (wown_ne hb hv (by decide)))]; exact ha
  have hk : KeepsT WT base w w4 := (KeepsT.more (More.alloc w o) h.sz).grown hg (by simp; exact Nat.le_succ_of_le h.sz) ((More.alloc w o).own hv) (.inr rfl)
  refine ⟨h4, ⟨h.lo, ?_, _, set_one h4, ownsRow_setCell_other hown (wown_ne h4 hown (by decide)) _⟩, hk.setCell (p := ⟨b, 0, none⟩) h.lo h4 (.inl rfl) _⟩
  have := hk.below.size
  simp
  have := h.sz
  omega

/-- Likewise, with no block laid ahead of it. -/
theorem wr_grown0 {w w4 : World} {base b n : Nat} {l : List UInt8} {v v' : Value} {xs : List Value} (h : WrAt w base b l) (hb : w.heap[b]? = some (.cells #[v] 33 (0, 0))) (hv : w.ownsRow base 5 1 v l.length (u8s l))
    (l' : List UInt8) (hn : n = l'.length) (hxs : xs = u8s l') (hown : w4.ownsRow base 5 1 v' n xs) (hg : w.grownBy w4 v.ownBlock) :
    w4.heap[b]? = some (.cells #[v] 33 (0, 0)) ∧ WrAt (w4.setCell ⟨b, 0, none⟩ v') base b l' ∧ KeepsT WT base w (w4.setCell ⟨b, 0, none⟩ v') := by
  subst hn hxs
  have h4 : w4.heap[b]? = some (.cells #[v] 33 (0, 0)) := by
    rw [hg.block b (lt_of_block hb) (Ne.symm (wown_ne hb hv (by decide)))]; exact hb
  have hk : KeepsT WT base w w4 := (KeepsT.refl WT base w).grown hg h.sz hv (.inr rfl)
  refine ⟨h4, ⟨h.lo, ?_, _, set_one h4, ownsRow_setCell_other hown (wown_ne h4 hown (by decide)) _⟩, hk.setCell (p := ⟨b, 0, none⟩) h.lo h4 (.inl rfl) _⟩
  have := hk.below.size
  simp
  have := h.sz
  omega

set_option maxHeartbeats 800000 in
set_option maxRecDepth 1000000 in
theorem wr_num (base b v : Nat) (l : List UInt8) (w : World) (h : WrAt w base b l) (hl : l.length ≤ 10000000) (hv : v < 18446744073709551616) :
    Calls Tryz.prog 44 #[.pointer (some ⟨b, 0, none⟩), .int .u64 v] w fun e w' => e = .returned (.tuple #[]) ∧ WrAt w' base b (l ++ num v) ∧ KeepsT WT base w w' := by
  obtain ⟨i0, hi, hz0, hz1, hz2⟩ := info_parts Tryz.info5
  have HN := Hid.mk (num_ten hv)
  have H0 := Hid.mk h
  clear h
  go_enter Tryz.func44, Tryz.ntmps44
  go_wp2
  go_loopw [1] (fun x wr => ∃ (u : Nat) (l' : List UInt8), x = .int .u64 u ∧ u < 18446744073709551616 ∧ Hid (l' ++ num u = l ++ num v) ∧ Hid (WrAt wr base b l' ∧ KeepsT WT base w wr)) (fun x _ => (intOf x).toNat)
  case atStart => exact ⟨v, l, rfl, hv, Hid.mk rfl, Hid.mk ⟨H0.out, KeepsT.refl _ _ _⟩⟩
  case round =>
    obtain ⟨u, l', rfl, hu, HE, HR⟩ := hrel
    have hlen : l'.length ≤ 10000010 := by
      have h1 := congrArg List.length HE.out
      have := HN.out.1
      simp only [List.length_append] at h1
      omega
    obtain ⟨x, hb, hx⟩ := HR.out.1.mem
    obtain ⟨ao, cap, rfl⟩ := wshape_of hx
    obtain ⟨c0, z0⟩ := wcells1 hb
    have HB := Hid.mk (And.intro hb hx)
    have hor := low_or u
    have hwr : IntKind.u8.wrap (u : Int) = ((u % 256 : Nat) : Int) := by rw [IntKind.wrap_u8]; omega
    clear hb hx
    by_cases h128 : u < 128
    · have hwu : IntKind.u8.wrap (u : Int) = (u : Int) := by rw [hwr]; omega
      clear hor hwr
      go_wp2_with (at_builtin; refine wpList_append_own _ rfl (.tmp 26) (.tmp 29) 31 rfl base 5 i0 (.int .u8 0) 1 1 Tryz.underlying31 hi hz0 hz1 hz2 rfl (by decide) _ _ _ rfl (HB.out.2.alloc _) ⟨wr.heap.size, 0, none⟩ 1 1 [.int .u8 (u : Int)] rfl rfl ?c1 ?c2 ?c3 ?c4 ?c5 ?_)
      case c1 => intro j y hj; match j, hj with | 0, hj => simp at hj; subst hj; simp [Addr.add]
      case c2 => intro y hy; simp at hy; subst hy; rfl
      case c3 => unfold maxLen; omega
      case c4 => omega
      case c5 => have := HR.out.1.sz; simp; omega
      intro v' w4 hown hgrow _
      obtain ⟨h4, h5, h6⟩ := wr_grown HR.out.1 HB.out.1 HB.out.2 (l' ++ num u) (by rw [num_small h128]; simp) (by rw [num_small h128]; exact u8s_one _ _ (by omega)) hown hgrow
      obtain ⟨ao', cap', rfl⟩ := wshape_of hown
      obtain ⟨k0, y0⟩ := wcells1 h4
      have H5 := Hid.mk (And.intro h5 (HR.out.2.trans h6))
      clear h4 h5 h6 hown hgrow
      go_wp2
      go_end0
      refine ⟨rfl, ?_, H5.out.2⟩
      have := H5.out.1
      rw [HE.out] at this
      exact this
    · have hor2 : bits .or .u8 ((u : Int) % 256) 128 = (u : Int) % 128 + 128 := by rw [hwr] at hor; simpa using hor
      clear hwr
      go_wp2_with (at_builtin; refine wpList_append_own _ rfl (.tmp 14) (.tmp 18) 31 rfl base 5 i0 (.int .u8 0) 1 1 Tryz.underlying31 hi hz0 hz1 hz2 rfl (by decide) _ _ _ rfl (HB.out.2.alloc _) ⟨wr.heap.size, 0, none⟩ 1 1 [.int .u8 ((u % 128 + 128 : Nat) : Int)] rfl rfl ?d1 ?d2 ?d3 ?d4 ?d5 ?_)
      case d1 => intro j y hj; match j, hj with | 0, hj => simp at hj; subst hj; simp [Addr.add]
      case d2 => intro y hy; simp at hy; subst hy; rfl
      case d3 => unfold maxLen; omega
      case d4 => omega
      case d5 => have := HR.out.1.sz; simp; omega
      intro v' w4 hown hgrow _
      obtain ⟨h4, h5, h6⟩ := wr_grown HR.out.1 HB.out.1 HB.out.2 (l' ++ [UInt8.ofNat (u % 128 + 128)]) (by simp) (u8s_one _ _ (by omega)) hown hgrow
      obtain ⟨ao', cap', rfl⟩ := wshape_of hown
      obtain ⟨k0, y0⟩ := wcells1 h4
      have H5 := Hid.mk (And.intro h5 (HR.out.2.trans h6))
      clear h4 h5 h6 hown hgrow
      go_wp2
      have hdiv : (u : Int) / 128 = ((u / 128 : Nat) : Int) := by omega
      refine ⟨⟨u / 128, l' ++ [UInt8.ofNat (u % 128 + 128)], by rw [← hdiv], by omega, Hid.mk ?_, H5⟩, by simp [intOf]; omega⟩
      rw [← HE.out, num_great h128]
      simp

set_option maxRecDepth 1000000 in
theorem nil_num (v : Nat) (w : World) : Calls Tryz.prog 44 #[.pointer none, .int .u64 v] w fun e w' => e = .returned (.tuple #[]) ∧ w' = w := by
  go_enter Tryz.func44, Tryz.ntmps44
  go_wp2
  refine bodyPost_ret (results_none rfl _ _ _) rfl ?_
  exact ⟨rfl, rfl⟩

theorem xor_all (x : Nat) (h : x < 18446744073709551616) : bits .xor .u64 IntKind.u64.max (x : Int) = ((18446744073709551615 - x : Nat) : Int) := by
  have e : IntKind.u64.max = ((18446744073709551615 : Nat) : Int) := by decide
  rw [e, bits_xor_u64_nat _ _ (by decide) h]
  congr 1
  apply Nat.eq_of_testBit_eq
  intro i
  rw [Nat.testBit_xor, show (18446744073709551615 : Nat) = 2 ^ 64 - 1 by decide, Nat.testBit_two_pow_sub_one, show 2 ^ 64 - 1 - x = 2 ^ 64 - (x + 1) by omega, Nat.testBit_two_pow_sub_succ (by simpa using h)]
  by_cases hi : i < 64
  · simp [hi]
  · have : x.testBit i = false := Nat.testBit_lt_two_pow (Nat.lt_of_lt_of_le h (by rw [show (18446744073709551616 : Nat) = 2 ^ 64 by decide]; exact Nat.pow_le_pow_right (by decide) (by omega)))
    simp [hi, this]

set_option maxRecDepth 1000000 in
theorem wr_raw (base b : Nat) (l m : List UInt8) (w : World) (h : WrAt w base b l) (hl : l.length ≤ 100000000) (hm : m.length ≤ 100000000) :
    Calls Tryz.prog 43 #[.pointer (some ⟨b, 0, none⟩), .string (bs m)] w fun e w' => e = .returned (.tuple #[]) ∧ WrAt w' base b (l ++ m) ∧ KeepsT WT base w w' := by
  obtain ⟨i0, hi, hz0, hz1, hz2⟩ := info_parts Tryz.info5
  obtain ⟨x, hb, hx⟩ := h.mem
  obtain ⟨ao, cap, rfl⟩ := wshape_of hx
  obtain ⟨c0, z0⟩ := wcells1 hb
  have HB := Hid.mk (And.intro h (And.intro hb hx))
  have hsz : (bs m).size = m.length := bs_size m
  clear hb hx h
  go_enter Tryz.func43, Tryz.ntmps43
  go_wp2_with (at_builtin; refine Lib.wpList_append_own_string _ rfl (.tmp 10) (.tmp 11) 31 9 rfl base 5 i0 Tryz.underlying31 Tryz.underlying9 hi hz0 hz1 hz2 _ _ _ rfl HB.out.2.2 (bs m) rfl ?c3 ?c4 ?c5 ?_)
  case c3 => unfold maxLen; omega
  case c4 => omega
  case c5 => exact HB.out.1.sz
  intro v' w4 hown hgrow _
  obtain ⟨h4, h5, h6⟩ := wr_grown0 HB.out.1 HB.out.2.1 HB.out.2.2 (l ++ m) (by simp) (u8s_str _ _) hown hgrow
  obtain ⟨ao', cap', rfl⟩ := wshape_of hown
  obtain ⟨k0, y0⟩ := wcells1 h4
  have H5 := Hid.mk (And.intro h5 h6)
  clear h4 h5 h6 hown hgrow
  go_wp2
  go_end0
  exact ⟨rfl, H5.out⟩

theorem nil_raw (s : ByteArray) (w : World) : Calls Tryz.prog 43 #[.pointer none, .string s] w fun e w' => e = .returned (.tuple #[]) ∧ w' = w := by
  go_enter Tryz.func43, Tryz.ntmps43
  go_wp2
  refine bodyPost_ret (results_none rfl _ _ _) rfl ?_
  exact ⟨rfl, rfl⟩

set_option maxRecDepth 1000000 in
theorem wr_bytes (base b : Nat) (l : List UInt8) (w : World) (h : WrAt w base b l) : Calls Tryz.prog 10 #[.pointer (some ⟨b, 0, none⟩)] w fun e w' => e = .returned (.string (bs l)) ∧ w' = w := by
  obtain ⟨x, hb, hx⟩ := h.mem
  have hconv : (convert 31 9 x).run Tryz.prog w = .ok (.string (bs l)) w := by
    rcases hx.2 with ⟨rfl, h0⟩ | ⟨g, cap, cur, rfl, _, _, _⟩
    · obtain rfl : l = [] := List.eq_nil_of_length_eq_zero h0
      rw [run_convert_bytes_string w 31 9 5 none _ _ Tryz.underlying31 Tryz.underlying5 Tryz.underlying9]
      rfl
    · refine run_convert_bytes_back w 31 9 5 _ cap l Tryz.underlying31 Tryz.underlying5 Tryz.underlying9 (fun j hj => ?_)
      rw [Addr.add_lit, Nat.zero_add, hx.cellAt j (by omega)]
      simp [u8s, hj]
  obtain ⟨ao, cap, rfl⟩ := wshape_of hx
  obtain ⟨c0, z0⟩ := wcells1 hb
  clear h hb hx
  go_enter Tryz.func10, Tryz.ntmps10
  go_wp2
  go_ret
  exact ⟨rfl, rfl⟩

theorem nil_bytes (w : World) : Calls Tryz.prog 10 #[.pointer none] w fun e w' => e = .returned (.string (bs [])) ∧ w' = w := by
  go_enter Tryz.func10, Tryz.ntmps10
  go_wp2
  go_ret
  exact ⟨rfl, rfl⟩

end Go.Proofs.YtbjgbigalfhnjaaGreatDoor

namespace Go.Proofs.YtbjgbigalfhnjaaGreatDoor
open Go.RowKit

theorem cells8 (n : Nat) (hn : n ≤ 9223372036854775807) (w : World) : Calls Tryz.prog 40 #[.int .i64 n, .int .i64 8] w fun e w' => e = .returned (.int .i64 (nby n : Nat)) ∧ w' = w := by
  go_enter Tryz.func40, Tryz.ntmps40
  go_wp2
  all_goals go_ret
  · rename_i h
    have h1 : (n : Int) % 8 ≠ 0 := by simpa using h
    have : (n : Int) / 8 + 1 = ((nby n : Nat) : Int) := by rw [nby_is]; omega
    exact ⟨by simp [this], rfl⟩
  · rename_i h
    have h1 : (n : Int) % 8 = 0 := by simpa using h
    have : (n : Int) / 8 = ((nby n : Nat) : Int) := by rw [nby_is]; omega
    exact ⟨by simp [this], rfl⟩
theorem cells64 (n : Nat) (hn : n ≤ 9223372036854775807) (w : World) : Calls Tryz.prog 40 #[.int .i64 n, .int .i64 64] w fun e w' => e = .returned (.int .i64 (nw n : Nat)) ∧ w' = w := by
  go_enter Tryz.func40, Tryz.ntmps40
  go_wp2
  all_goals go_ret
  · rename_i h
    have h1 : (n : Int) % 64 ≠ 0 := by simpa using h
    have : (n : Int) / 64 + 1 = ((nw n : Nat) : Int) := by unfold nw; omega
    exact ⟨by simp [this], rfl⟩
  · rename_i h
    have h1 : (n : Int) % 64 = 0 := by simpa using h
    have : (n : Int) / 64 = ((nw n : Nat) : Int) := by unfold nw; omega
    exact ⟨by simp [this], rfl⟩

theorem RowRd.more {w w' : World} {b V n : Nat} (h : RowRd w b V n) (k : More w w') : RowRd w' b V n := by
  have hc : ∀ {p : Addr} {v : Value}, w.cell? p = some v → w'.cell? p = some v := fun hp => (World.cell?_of_block (k.block _ (World.block_lt_of_cell? w _ hp))).trans hp
  exact ⟨h.fit, h.len, hc h.c1, h.c0.imp (fun ⟨h1, ao, cap, h2⟩ => ⟨h1, ao, cap, hc h2⟩) fun ⟨g, cap, h1, h2⟩ => ⟨g, cap, hc h1, fun j hj => hc (h2 j hj)⟩⟩

/-- Cells of bytes. -/
def u8f (f : Nat → Nat) (K : Nat) : List Value := (List.range K).map fun i => Value.int .u8 (f i : Nat)
theorem u8f_len (f : Nat → Nat) (K : Nat) : (u8f f K).length = K := by simp [u8f]
theorem u8f_get (f : Nat → Nat) (K i : Nat) (h : i < K) : (u8f f K)[i]? = some (.int .u8 (f i : Nat)) := by simp [u8f, h]
/-- The first k bytes of a row, noughts behind them. -/
def byTo (V k i : Nat) : Nat := if i < k then V / 256 ^ i % 256 else 0
theorem byTo_set (V k K : Nat) : (u8f (byTo V k) K).set k (.int .u8 (V / 256 ^ k % 256 : Nat)) = u8f (byTo V (k + 1)) K := by
  apply List.ext_getElem?
  intro i
  by_cases hi : i < K
  · rw [u8f_get _ _ _ hi, List.getElem?_set]
    by_cases h : k = i
    · subst h; simp [u8f_len, hi, byTo]
    · rw [if_neg h, u8f_get _ _ _ hi]
      unfold byTo
      by_cases h2 : i < k
      · rw [if_pos h2, if_pos (by omega)]
      · rw [if_neg h2, if_neg (by omega)]
  · rw [List.getElem?_eq_none (by simp [u8f_len]; omega), List.getElem?_eq_none (by simp [u8f_len]; omega)]
theorem byTo_none (V K : Nat) : (madeCells (Value.int IntKind.u8 0).cells (K * 1)).toList = u8f (byTo V 0) K := by
  apply List.ext_getElem?
  intro i
  by_cases hi : i < K
  · rw [u8f_get _ _ _ hi]
    simp [madeCells, byTo, hi, Value.cells, Nat.mod_one]
  · rw [List.getElem?_eq_none (by simp [madeCells]; omega), List.getElem?_eq_none (by simp [u8f_len]; omega)]
theorem cut_byte (V k : Nat) : cutV V ((k * 8 : Nat) : Int) 8 = V / 256 ^ k % 256 := by
  unfold cutV
  rw [if_neg (by omega), Int.toNat_natCast, Nat.mul_comm k 8, Nat.pow_mul]

set_option maxHeartbeats 800000 in
set_option maxRecDepth 1000000 in
theorem sb_putRow (base wb b V n : Nat) (l : List UInt8) (w : World) (h : WrAt w base wb l) (hr : RowRd w b V n) (hn : n ≤ 1000000) (hl : l.length ≤ 1000000) :
    Calls Tryz.prog 17 #[.pointer (some ⟨wb, 0, none⟩), .pointer (some ⟨b, 0, none⟩)] w fun e w' => e = .returned (.tuple #[]) ∧ WrAt w' base wb (l ++ rby V n) ∧ KeepsT WT base w w' := by
  obtain ⟨i0, hi, hz0, hz1, hz2⟩ := info_parts Tryz.info5
  have hlen := row_len b n w hr.c1
  have hce := fun w => cells8 n (by omega) w
  have hKb : nby n ≤ 1000000 := by rw [nby_is]; omega
  have hrl := rby_len V n
  have hra := fun i hi => rby_at V n i hi
  obtain ⟨L, hL⟩ : ∃ L, rby V n = L := ⟨_, rfl⟩
  obtain ⟨K, hK⟩ : ∃ K, nby n = K := ⟨_, rfl⟩
  rw [hK] at hce hKb hrl hra
  rw [hL] at hrl hra ⊢
  have HH := Hid.mk (And.intro h (And.intro hr (And.intro hrl hra)))
  clear h hr hL hK hrl hra
  go_enter Tryz.func17, Tryz.ntmps17
  go_wp2_with (first
    | (go_at_call 41; refine hlen.mono ?_; rintro e w' ⟨rfl, hw⟩; subst w')
    | (go_at_call 40; refine (hce _).mono ?_; rintro e w' ⟨rfl, hw⟩; subst w')
    | (refine wpList_make_full _ rfl _ _ 31 rfl w.heap.size 5 i0 (.int .u8 0) 1 Tryz.underlying31 hi hz0 hz1 .i64 .i64 K K K rfl rfl rfl rfl (by rw [hz2]; omega) (by unfold maxLen; omega) (Nat.le_refl _) ?_; intro w1 hown hg; have H1 := Hid.mk (And.intro hown hg); clear hown hg))
  have hs1 : w.heap.size < w1.heap.size := by
    rcases H1.out.1.2 with ⟨h, _⟩ | ⟨g, c, cur, h, _, hg, _⟩
    · cases h
    · simp at h; obtain ⟨rfl, _⟩ := h; exact lt_of_block hg
  have hm1 : More w w1 := ⟨H1.out.2.os, H1.out.2.tape, H1.out.2.output, H1.out.2.size, fun k hk => H1.out.2.block k hk (by simp)⟩
  have h0 := H1.out.1
  rw [byTo_none V K] at h0
  go_loopw [12] (fun i wr => ∃ k : Nat, k ≤ K ∧ i = .int .i64 k ∧ Hid (wr.ownsRow w.heap.size 5 1 (.slice (some ⟨w.heap.size, 0, none⟩) K K) K (u8f (byTo V k) K) ∧ More w wr ∧ w.heap.size < wr.heap.size)) (fun i _ => K - (intOf i).toNat)
  case atStart => exact ⟨0, Nat.zero_le _, rfl, Hid.mk ⟨h0, hm1, hs1⟩⟩
  case round =>
    obtain ⟨k, hk, rfl, HR⟩ := hrel
    by_cases hkK : k < K
    · have hcut := row_cut b V n ((k * 8 : Nat) : Int) 8 wr (HH.out.2.1.more HR.out.2.1) (by omega) (by omega)
      rw [show min 64 (8 : Int).toNat = 8 by decide, cut_byte V k, Int.natCast_mul] at hcut
      have hXb : V / 256 ^ k % 256 < 256 := Nat.mod_lt _ (by decide)
      obtain ⟨X, hX⟩ : ∃ X, V / 256 ^ k % 256 = X := ⟨_, rfl⟩
      rw [hX] at hcut hXb
      have HX := Hid.mk hX
      have hwX : IntKind.u8.wrap (X : Int) = X := by rw [IntKind.wrap_u8]; omega
      have hfz : ∀ m, (wr.drewN m).frozen? ⟨w.heap.size, k, none⟩ = false := fun m => HR.out.1.frozenAt k
      have hcl : ∀ m, (wr.drewN m).cell? ⟨w.heap.size, k, none⟩ = some (.int .u8 (byTo V k k : Nat)) := fun m => by
        have := HR.out.1.cellAt k (by omega)
        rw [u8f_get _ _ _ hkK] at this
        exact this
      clear hX
      go_wp2_with (go_at_call 42; refine hcut.mono ?_; rintro e w' ⟨rfl, m, hw⟩; subst w')
      refine ⟨⟨k + 1, by omega, by go_num, Hid.mk ?_⟩, by simp [intOf]; omega⟩
      have hs := (HR.out.1.stored k (.int .u8 (X : Nat))).1
      rw [← HX.out, byTo_set V k K, HX.out] at hs
      exact ⟨hs, (More.trans HR.out.2.1 (More.drewN wr m)).setCell (p := ⟨w.heap.size, k, none⟩) (Nat.le_refl _) _, Nat.lt_of_lt_of_le HR.out.2.2 ((Below.refl 0 (wr.drewN m)).setCell (p := ⟨w.heap.size, k, none⟩) (Nat.zero_le _) _).size⟩
    · obtain rfl : k = K := by omega
      have hconv : (convert 31 9 (.slice (some ⟨w.heap.size, 0, none⟩) k k)).run Tryz.prog wr = .ok (.string (bs L)) wr := by
        have hll := HH.out.2.2.1
        have := run_convert_bytes_back (P := Tryz.prog) wr 31 9 5 ⟨w.heap.size, 0, none⟩ k L Tryz.underlying31 Tryz.underlying5 Tryz.underlying9 (fun j hj => ?_)
        · rw [hll] at this; exact this
        · rw [Addr.add_lit, Nat.zero_add, HR.out.1.cellAt j (by omega), u8f_get _ _ _ (by omega)]
          have hb := HH.out.2.2.2 j (by omega)
          have : (L[j]).toNat = bt L j := by unfold bt; rw [List.getElem?_eq_getElem hj]; rfl
          rw [byTo, if_pos (by omega), ← hb, ← this]
      have hraw := wr_raw base wb l L wr (HH.out.1.more HR.out.2.1) (by omega) (by rw [HH.out.2.2.1]; omega)
      clear hkK hk
      go_wp2_with (go_at_call 43; refine hraw.mono ?_; rintro e w3 ⟨rfl, hw3, hk3⟩; have H3 := Hid.mk (And.intro hw3 hk3); clear hw3 hk3)
      first | go_ret | go_end0
      exact ⟨rfl, H3.out.1, (KeepsT.more HR.out.2.1 HH.out.1.sz).trans H3.out.2⟩

end Go.Proofs.YtbjgbigalfhnjaaGreatDoor
