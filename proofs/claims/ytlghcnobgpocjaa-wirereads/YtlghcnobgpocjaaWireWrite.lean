/-
  wire's Writer: Num, Int, Text, Raw, Bytes.
-/
import Derived.Test.YtlghcnobgpocjaaWireMem
namespace Go.Proofs.Ytlghcnobgpocjaa
open Go.RowKit

theorem or_u8 : ∀ c : Fin 256, bits .or .u8 (c.val : Int) 128 = ((c.val % 128 + 128 : Nat) : Int) := by decide +kernel
theorem low_or (v : Nat) : bits .or .u8 (IntKind.u8.wrap (v : Int)) 128 = ((v % 128 + 128 : Nat) : Int) := by
  have h : IntKind.u8.wrap (v : Int) = ((v % 256 : Nat) : Int) := by rw [IntKind.wrap_u8]; omega
  rw [h, or_u8 ⟨v % 256, Nat.mod_lt _ (by decide)⟩]
  simp only
  congr 2
  omega

theorem Try.info5 : (Try.prog.info? 5).map (fun i => (i.zero, i.size, i.bytes)) = some (some (.int .u8 0), 1, 1) := by kernel_rfl

/-- A byte has come behind. -/
theorem wr_grown {w w4 : World} {base b n : Nat} {l : List UInt8} {v v' : Value} {o : Obj} {xs : List Value} (h : WrAt w base b l) (hb : w.heap[b]? = some (.cells #[v] 28 (0, 0))) (hv : w.ownsRow base 5 1 v l.length (u8s l))
    (l' : List UInt8) (hn : n = l'.length) (hxs : xs = u8s l') (hown : w4.ownsRow base 5 1 v' n xs) (hg : (w.alloc o).grownBy w4 v.ownBlock) :
    w4.heap[b]? = some (.cells #[v] 28 (0, 0)) ∧ WrAt (w4.setCell ⟨b, 0, none⟩ v') base b l' ∧ Keeps WT base w (w4.setCell ⟨b, 0, none⟩ v') := by
  subst hn hxs
  have ha : (w.alloc o).heap[b]? = some (.cells #[v] 28 (0, 0)) := (More.alloc w o).at hb
  have h4 : w4.heap[b]? = some (.cells #[v] 28 (0, 0)) := by
    rw [hg.block b (lt_of_block ha) (Ne.symm (own_ne hb hv (by decide)))]; exact ha
  have hk : Keeps WT base w w4 := (Keeps.more (More.alloc w o) h.sz).grown hg (by simp; exact Nat.le_succ_of_le h.sz) ((More.alloc w o).own hv) (.inr rfl)
  refine ⟨h4, ⟨h.lo, ?_, _, set_one h4, ownsRow_setCell_other hown (own_ne h4 hown (by decide)) _⟩, hk.setCell (p := ⟨b, 0, none⟩) h.lo h4 (.inl rfl) _⟩
  have := hk.below.size
  simp
  have := h.sz
  omega

/-- Likewise, with no block laid ahead of it. -/
theorem wr_grown0 {w w4 : World} {base b n : Nat} {l : List UInt8} {v v' : Value} {xs : List Value} (h : WrAt w base b l) (hb : w.heap[b]? = some (.cells #[v] 28 (0, 0))) (hv : w.ownsRow base 5 1 v l.length (u8s l))
    (l' : List UInt8) (hn : n = l'.length) (hxs : xs = u8s l') (hown : w4.ownsRow base 5 1 v' n xs) (hg : w.grownBy w4 v.ownBlock) :
    w4.heap[b]? = some (.cells #[v] 28 (0, 0)) ∧ WrAt (w4.setCell ⟨b, 0, none⟩ v') base b l' ∧ Keeps WT base w (w4.setCell ⟨b, 0, none⟩ v') := by
  subst hn hxs
  have h4 : w4.heap[b]? = some (.cells #[v] 28 (0, 0)) := by
    rw [hg.block b (lt_of_block hb) (Ne.symm (own_ne hb hv (by decide)))]; exact hb
  have hk : Keeps WT base w w4 := (Keeps.refl WT base w).grown hg h.sz hv (.inr rfl)
  refine ⟨h4, ⟨h.lo, ?_, _, set_one h4, ownsRow_setCell_other hown (own_ne h4 hown (by decide)) _⟩, hk.setCell (p := ⟨b, 0, none⟩) h.lo h4 (.inl rfl) _⟩
  have := hk.below.size
  simp
  have := h.sz
  omega

set_option maxHeartbeats 800000 in
set_option maxRecDepth 1000000 in
theorem wr_num (base b v : Nat) (l : List UInt8) (w : World) (h : WrAt w base b l) (hl : l.length ≤ 10000000) (hv : v < 18446744073709551616) :
    Calls Try.prog 21 #[.pointer (some ⟨b, 0, none⟩), .int .u64 v] w fun e w' => e = .returned (.tuple #[]) ∧ WrAt w' base b (l ++ num v) ∧ Keeps WT base w w' := by
  obtain ⟨i0, hi, hz0, hz1, hz2⟩ := info_parts Try.info5
  have HN := Hid.mk (num_ten hv)
  have H0 := Hid.mk h
  clear h
  go_enter Try.func21, Try.ntmps21
  go_wp2
  go_loopw [1] (fun x wr => ∃ (u : Nat) (l' : List UInt8), x = .int .u64 u ∧ u < 18446744073709551616 ∧ Hid (l' ++ num u = l ++ num v) ∧ Hid (WrAt wr base b l' ∧ Keeps WT base w wr)) (fun x _ => (intOf x).toNat)
  case atStart => exact ⟨v, l, rfl, hv, Hid.mk rfl, Hid.mk ⟨H0.out, Keeps.refl _ _ _⟩⟩
  case round =>
    obtain ⟨u, l', rfl, hu, HE, HR⟩ := hrel
    have hlen : l'.length ≤ 10000010 := by
      have h1 := congrArg List.length HE.out
      have := HN.out.1
      simp only [List.length_append] at h1
      omega
    obtain ⟨x, hb, hx⟩ := HR.out.1.mem
    obtain ⟨ao, cap, rfl⟩ := shape_of hx
    obtain ⟨c0, z0⟩ := cells1 hb
    have HB := Hid.mk (And.intro hb hx)
    have hor := low_or u
    have hwr : IntKind.u8.wrap (u : Int) = ((u % 256 : Nat) : Int) := by rw [IntKind.wrap_u8]; omega
    clear hb hx
    by_cases h128 : u < 128
    · have hwu : IntKind.u8.wrap (u : Int) = (u : Int) := by rw [hwr]; omega
      clear hor hwr
      go_wp2_with (at_builtin; refine wpList_append_own _ rfl (.tmp 26) (.tmp 29) 26 rfl base 5 i0 (.int .u8 0) 1 1 Try.underlying26 hi hz0 hz1 hz2 rfl (by decide) _ _ _ rfl (HB.out.2.alloc _) ⟨wr.heap.size, 0, none⟩ 1 1 [.int .u8 (u : Int)] rfl rfl ?c1 ?c2 ?c3 ?c4 ?c5 ?_)
      case c1 => intro j y hj; match j, hj with | 0, hj => simp at hj; subst hj; simp [Addr.add]
      case c2 => intro y hy; simp at hy; subst hy; rfl
      case c3 => unfold maxLen; omega
      case c4 => omega
      case c5 => have := HR.out.1.sz; simp; omega
      intro v' w4 hown hgrow _
      obtain ⟨h4, h5, h6⟩ := wr_grown HR.out.1 HB.out.1 HB.out.2 (l' ++ num u) (by rw [num_small h128]; simp) (by rw [num_small h128]; exact u8s_one _ _ (by omega)) hown hgrow
      obtain ⟨ao', cap', rfl⟩ := shape_of hown
      obtain ⟨k0, y0⟩ := cells1 h4
      have H5 := Hid.mk (And.intro h5 (HR.out.2.trans h6))
      clear h4 h5 h6 hown hgrow
      go_wp2
      go_end0
      refine ⟨rfl, ?_, H5.out.2⟩
      have := H5.out.1
      rw [HE.out] at this
      exact this
    · have hor2 : bits .or .u8 ((u : Int) % 256) 128 = (u : Int) % 128 + 128 := by rw [hwr] at hor; simpa using hor
      clear hwr
      go_wp2_with (at_builtin; refine wpList_append_own _ rfl (.tmp 14) (.tmp 18) 26 rfl base 5 i0 (.int .u8 0) 1 1 Try.underlying26 hi hz0 hz1 hz2 rfl (by decide) _ _ _ rfl (HB.out.2.alloc _) ⟨wr.heap.size, 0, none⟩ 1 1 [.int .u8 ((u % 128 + 128 : Nat) : Int)] rfl rfl ?d1 ?d2 ?d3 ?d4 ?d5 ?_)
      case d1 => intro j y hj; match j, hj with | 0, hj => simp at hj; subst hj; simp [Addr.add]
      case d2 => intro y hy; simp at hy; subst hy; rfl
      case d3 => unfold maxLen; omega
      case d4 => omega
      case d5 => have := HR.out.1.sz; simp; omega
      intro v' w4 hown hgrow _
      obtain ⟨h4, h5, h6⟩ := wr_grown HR.out.1 HB.out.1 HB.out.2 (l' ++ [UInt8.ofNat (u % 128 + 128)]) (by simp) (u8s_one _ _ (by omega)) hown hgrow
      obtain ⟨ao', cap', rfl⟩ := shape_of hown
      obtain ⟨k0, y0⟩ := cells1 h4
      have H5 := Hid.mk (And.intro h5 (HR.out.2.trans h6))
      clear h4 h5 h6 hown hgrow
      go_wp2
      have hdiv : (u : Int) / 128 = ((u / 128 : Nat) : Int) := by omega
      refine ⟨⟨u / 128, l' ++ [UInt8.ofNat (u % 128 + 128)], by rw [← hdiv], by omega, Hid.mk ?_, H5⟩, by simp [intOf]; omega⟩
      rw [← HE.out, num_great h128]
      simp

set_option maxRecDepth 1000000 in
theorem nil_num (v : Nat) (w : World) : Calls Try.prog 21 #[.pointer none, .int .u64 v] w fun e w' => e = .returned (.tuple #[]) ∧ w' = w := by
  go_enter Try.func21, Try.ntmps21
  go_wp2
  refine bodyPost_ret (results_none rfl _ _ _) rfl ?_
  exact ⟨rfl, rfl⟩

theorem xor_all (x : Nat) (h : x < 18446744073709551616) : bits .xor .u64 IntKind.u64.max (x : Int) = ((18446744073709551615 - x : Nat) : Int) := by
  have e : IntKind.u64.max = ((18446744073709551615 : Nat) : Int) := by decide
  rw [e, bits_xor_u64_nat _ _ (by decide) h]
  congr 1
  apply Nat.eq_of_testBit_eq
  intro i
  rw [Nat.testBit_xor, show (18446744073709551615 : Nat) = 2 ^ 64 - 1 by decide, Nat.testBit_two_pow_sub_one, show 2 ^ 64 - 1 - x = 2 ^ 64 - (x + 1) by omega, Nat.testBit_two_pow_sub_succ (by simpa using h)]
  by_cases hi : i < 64
  · simp [hi]
  · have : x.testBit i = false := Nat.testBit_lt_two_pow (Nat.lt_of_lt_of_le h (by rw [show (18446744073709551616 : Nat) = 2 ^ 64 by decide]; exact Nat.pow_le_pow_right (by decide) (by omega)))
    simp [hi, this]

theorem folded (v : Int) (hv : -9223372036854775808 ≤ v ∧ v ≤ 9223372036854775807) (w : World) : Calls Try.prog 45 #[.int .i64 v] w fun e w' => e = .returned (.int .u64 (fold v : Nat)) ∧ w' = w := by
  by_cases h : v < 0
  · rw [show fold v = (-2 * v - 1).toNat by unfold fold; rw [if_pos h]]
    go_enter Try.func45, Try.ntmps45
    go_wp2
    go_ret
    refine ⟨?_, rfl⟩
    obtain ⟨X, hX⟩ := Int.eq_ofNat_of_zero_le (show 0 ≤ 2 * v + 18446744073709551616 by omega)
    have e1 : IntKind.u64.wrap (IntKind.u64.wrap v * 2) = (X : Int) := by rw [IntKind.wrap_u64, IntKind.wrap_u64, ← hX]; omega
    have e2 : bits .xor .u64 IntKind.u64.max (IntKind.u64.wrap (IntKind.u64.wrap v * 2)) = (((-2 * v).toNat - 1 : Nat) : Int) := by rw [e1, xor_all X (by omega)]; omega
    simp [e2]
  · rw [show fold v = (2 * v).toNat by unfold fold; rw [if_neg h]]
    go_enter Try.func45, Try.ntmps45
    go_wp2
    go_ret
    refine ⟨?_, rfl⟩
    have e2 : v * 2 = max (2 * v) 0 := by omega
    simp [e2]

set_option maxRecDepth 1000000 in
theorem wr_int (base b : Nat) (v : Int) (l : List UInt8) (w : World) (h : WrAt w base b l) (hl : l.length ≤ 10000000) (hv : -9223372036854775808 ≤ v ∧ v ≤ 9223372036854775807) :
    Calls Try.prog 22 #[.pointer (some ⟨b, 0, none⟩), .int .i64 v] w fun e w' => e = .returned (.tuple #[]) ∧ WrAt w' base b (l ++ num (fold v)) ∧ Keeps WT base w w' := by
  have h1 := fun w => folded v hv w
  have h2 := wr_num base b (fold v) l w h hl (fold_lt hv)
  clear h
  generalize fold v = u at *
  go_enter Try.func22, Try.ntmps22
  go_wp2_with (first
    | (go_at_call 45; refine (h1 _).mono ?_; rintro e w' ⟨rfl, hw⟩; subst w')
    | (go_at_call 21; refine h2.mono ?_; rintro e w1 ⟨rfl, hr⟩; have H1 := Hid.mk hr; clear hr))
  go_end0
  exact ⟨rfl, H1.out⟩

theorem nil_int (v : Int) (hv : -9223372036854775808 ≤ v ∧ v ≤ 9223372036854775807) (w : World) : Calls Try.prog 22 #[.pointer none, .int .i64 v] w fun e w' => e = .returned (.tuple #[]) ∧ w' = w := by
  have h1 := fun w => folded v hv w
  have h2 := fun w => nil_num (fold v) w
  generalize fold v = u at *
  go_enter Try.func22, Try.ntmps22
  go_wp2_with (first
    | (go_at_call 45; refine (h1 _).mono ?_; rintro e w' ⟨rfl, hw⟩; subst w')
    | (go_at_call 21; refine (h2 _).mono ?_; rintro e w' ⟨rfl, hw⟩; subst w'))
  go_end0
  exact ⟨rfl, rfl⟩

set_option maxRecDepth 1000000 in
theorem wr_raw (base b : Nat) (l m : List UInt8) (w : World) (h : WrAt w base b l) (hl : l.length ≤ 100000000) (hm : m.length ≤ 100000000) :
    Calls Try.prog 27 #[.pointer (some ⟨b, 0, none⟩), .string (bs m)] w fun e w' => e = .returned (.tuple #[]) ∧ WrAt w' base b (l ++ m) ∧ Keeps WT base w w' := by
  obtain ⟨i0, hi, hz0, hz1, hz2⟩ := info_parts Try.info5
  obtain ⟨x, hb, hx⟩ := h.mem
  obtain ⟨ao, cap, rfl⟩ := shape_of hx
  obtain ⟨c0, z0⟩ := cells1 hb
  have HB := Hid.mk (And.intro h (And.intro hb hx))
  have hsz : (bs m).size = m.length := bs_size m
  clear hb hx h
  go_enter Try.func27, Try.ntmps27
  go_wp2_with (at_builtin; refine Lib.wpList_append_own_string _ rfl (.tmp 10) (.tmp 11) 26 9 rfl base 5 i0 Try.underlying26 Try.underlying9 hi hz0 hz1 hz2 _ _ _ rfl HB.out.2.2 (bs m) rfl ?c3 ?c4 ?c5 ?_)
  case c3 => unfold maxLen; omega
  case c4 => omega
  case c5 => exact HB.out.1.sz
  intro v' w4 hown hgrow _
  obtain ⟨h4, h5, h6⟩ := wr_grown0 HB.out.1 HB.out.2.1 HB.out.2.2 (l ++ m) (by simp) (u8s_str _ _) hown hgrow
  obtain ⟨ao', cap', rfl⟩ := shape_of hown
  obtain ⟨k0, y0⟩ := cells1 h4
  have H5 := Hid.mk (And.intro h5 h6)
  clear h4 h5 h6 hown hgrow
  go_wp2
  go_end0
  exact ⟨rfl, H5.out⟩

theorem nil_raw (s : ByteArray) (w : World) : Calls Try.prog 27 #[.pointer none, .string s] w fun e w' => e = .returned (.tuple #[]) ∧ w' = w := by
  go_enter Try.func27, Try.ntmps27
  go_wp2
  refine bodyPost_ret (results_none rfl _ _ _) rfl ?_
  exact ⟨rfl, rfl⟩

set_option maxRecDepth 1000000 in
theorem wr_text (base b : Nat) (l m : List UInt8) (w : World) (h : WrAt w base b l) (hl : l.length ≤ 1000000) (hm : m.length ≤ 1000000) :
    Calls Try.prog 23 #[.pointer (some ⟨b, 0, none⟩), .string (bs m)] w fun e w' => e = .returned (.tuple #[]) ∧ WrAt w' base b (l ++ (num m.length ++ m)) ∧ Keeps WT base w w' := by
  have h1 := wr_num base b m.length l w h (by omega) (by omega)
  have hn := (num_ten (show m.length < 18446744073709551616 by omega)).1
  have h2 := fun w (h : WrAt w base b (l ++ num m.length)) => wr_raw base b (l ++ num m.length) m w h (by simp; omega) (by omega)
  rw [List.append_assoc] at h2
  have hsz : (bs m).size = m.length := bs_size m
  have hwr : IntKind.u64.wrap (m.length : Int) = (m.length : Int) := by rw [IntKind.wrap_u64]; omega
  clear h hn
  generalize m.length = k at *
  go_enter Try.func23, Try.ntmps23
  go_wp2_with (first
    | (go_at_call 21; (try simp only [hsz]); refine h1.mono ?_; rintro e w1 ⟨rfl, hr⟩; have H1 := Hid.mk hr; clear hr)
    | (go_at_call 27; refine (h2 w1 H1.out.1).mono ?_; rintro e w2 ⟨rfl, ha, hb⟩; have H2 := Hid.mk (And.intro ha (H1.out.2.trans hb)); clear ha hb))
  go_end0
  exact ⟨rfl, H2.out⟩

theorem nil_text (s : ByteArray) (w : World) : Calls Try.prog 23 #[.pointer none, .string s] w fun e w' => e = .returned (.tuple #[]) ∧ w' = w := by
  have h1 := fun (z : Nat) w => nil_num z w
  have h2 := fun w => nil_raw s w
  go_enter Try.func23, Try.ntmps23
  go_wp2_with (first
    | (go_at_call 21; refine (h1 _ _).mono ?_; rintro e w' ⟨rfl, hw⟩; subst w')
    | (go_at_call 27; refine (h2 _).mono ?_; rintro e w' ⟨rfl, hw⟩; subst w'))
  go_end0
  exact ⟨rfl, rfl⟩

set_option maxRecDepth 1000000 in
theorem wr_bytes (base b : Nat) (l : List UInt8) (w : World) (h : WrAt w base b l) : Calls Try.prog 10 #[.pointer (some ⟨b, 0, none⟩)] w fun e w' => e = .returned (.string (bs l)) ∧ w' = w := by
  obtain ⟨x, hb, hx⟩ := h.mem
  have hconv : (convert 26 9 x).run Try.prog w = .ok (.string (bs l)) w := by
    rcases hx.2 with ⟨rfl, h0⟩ | ⟨g, cap, cur, rfl, _, _, _⟩
    · obtain rfl : l = [] := List.eq_nil_of_length_eq_zero h0
      rw [run_convert_bytes_string w 26 9 5 none _ _ Try.underlying26 Try.underlying5 Try.underlying9]
      rfl
    · refine run_convert_bytes_back w 26 9 5 _ cap l Try.underlying26 Try.underlying5 Try.underlying9 (fun j hj => ?_)
      rw [Addr.add_lit, Nat.zero_add, hx.cellAt j (by omega)]
      simp [u8s, hj]
  obtain ⟨ao, cap, rfl⟩ := shape_of hx
  obtain ⟨c0, z0⟩ := cells1 hb
  clear h hb hx
  go_enter Try.func10, Try.ntmps10
  go_wp2
  go_ret
  exact ⟨rfl, rfl⟩

theorem nil_bytes (w : World) : Calls Try.prog 10 #[.pointer none] w fun e w' => e = .returned (.string (bs [])) ∧ w' = w := by
  go_enter Try.func10, Try.ntmps10
  go_wp2
  go_ret
  exact ⟨rfl, rfl⟩

end Go.Proofs.Ytlghcnobgpocjaa
