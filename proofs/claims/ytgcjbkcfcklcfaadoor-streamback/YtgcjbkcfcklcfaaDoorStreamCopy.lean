/-
  stream's copies of rows: Writer's Row, Open; a writer that is nil.
-/
import Derived.Test.YtgcjbkcfcklcfaaDoorStreamRice
namespace Go.Proofs.YtgcjbkcfcklcfaaDoor
open Go.RowKit

/-- What is read of a row, or of nil, that is copied. -/
structure RowHas (w : World) (p : Value) (V n : Nat) : Prop where
  fit : V < 2 ^ n
  len : n ≤ 1099511627776
  words : Calls Tryd.prog 14 #[p] w fun e w' => ∃ v', e = .returned v' ∧ w'.ownsRow w.heap.size 32 1 v' (nw n) (u64s (wd V) (nw n)) ∧ More w w'
  lenAt : ∀ w', More w w' → Calls Tryd.prog 12 #[p] w' fun e w'' => e = .returned (.int .i64 n) ∧ w'' = w'
theorem RowHas.row {w : World} {base b V n : Nat} (h : RowAt w base b V n) : RowHas w (.pointer (some ⟨b, 0, none⟩)) V n :=
  ⟨h.fit, h.len, (row_words base b V n w h).mono fun _ _ ⟨v', he, ho, hk⟩ => ⟨v', he, ho, hk.below⟩, fun w' hm => row_len b n w' (hm.row h).rd.c1⟩
theorem RowHas.none (w : World) : RowHas w (.pointer none) 0 0 :=
  ⟨by decide, by decide, (nil_words w).mono fun _ _ ⟨he, hw⟩ => ⟨_, he, by rw [hw]; exact World.ownsRow_nil _ _ _ _, by rw [hw]; exact Below.refl _ _⟩, fun w' _ => nil_len w'⟩

theorem RowAt.lower {w : World} {base base' b V n : Nat} (h : RowAt w base b V n) (hb : base' ≤ base) : RowAt w base' b V n := by
  obtain ⟨v, hm, hown⟩ := h.mem
  refine ⟨Nat.le_trans hb h.lo, h.fit, h.len, v, hm, hown.1, ?_⟩
  rcases hown.2 with h2 | ⟨g, cap, cur, hv, hg, hr⟩
  · exact .inl h2
  · exact .inr ⟨g, cap, cur, hv, Nat.le_trans hb hg, hr⟩

theorem ofW_of (V n : Nat) (hV : V < 2 ^ n) : ofW (wd V) (nw n) = V := by
  have h1 := ofW_lt (wd V) (nw n) fun j _ => wd_lt V j
  have h2 : V < 2 ^ (64 * nw n) := Nat.lt_of_lt_of_le hV (Nat.pow_le_pow_right (by decide) (by unfold nw; omega))
  refine eq_of_words h1 h2 fun j hj => ?_
  rw [show nw (64 * nw n) = nw n by unfold nw; omega] at hj
  exact ofW_wd (wd V) (nw n) (fun j _ => wd_lt V j) j hj

set_option maxRecDepth 1000000 in
theorem copy_of (p : Value) (V n : Nat) (w : World) (h : RowHas w p V n) :
    Calls Tryd.prog 37 #[p] w fun e w' => ∃ c, e = .returned (.pointer (some ⟨c, 0, none⟩)) ∧ RowAt w' w.heap.size c V n ∧ More w w' := by
  obtain ⟨hfit, hlen, hw, hl⟩ := h
  have hof := fun v w1 (hr : Rd w1 v (nw n) (wd V)) => of_row v (nw n) n (wd V) w1 hr (fun j _ => wd_lt V j) hlen rfl (by rw [ofW_of V n hfit]; exact hfit)
  rw [ofW_of V n hfit] at hof
  generalize nw n = K at *
  generalize wd V = f at *
  clear hfit
  go_enter Tryd.func37, Tryd.ntmps37
  go_wp2_with (first
    | (go_at_call 14; refine hw.mono ?_; rintro e w1 ⟨v', rfl, ho, hm⟩; have H1 := Hid.mk (And.intro (rd_of_own ho) hm); clear ho hm hw)
    | (go_at_call 12; refine (hl w1 H1.out.2).mono ?_; rintro e w' ⟨rfl, hw'⟩; subst w')
    | (go_at_call 56; refine (hof _ _ H1.out.1).mono ?_; rintro e w2 ⟨c, rfl, hr, hk⟩; have H2 := Hid.mk (And.intro (hr.lower H1.out.2.size) (More.trans H1.out.2 hk.below)); clear hr hk))
  go_ret
  exact ⟨_, rfl, H2.out⟩

set_option maxRecDepth 1000000 in
theorem wr_row (base b V n : Nat) (w : World) (h : WrAt w base b V n) :
    Calls Tryd.prog 11 #[.pointer (some ⟨b, 0, none⟩)] w fun e w' => ∃ c, e = .returned (.pointer (some ⟨c, 0, none⟩)) ∧ RowAt w' w.heap.size c V n ∧ More w w' := by
  obtain ⟨p, hb, hp⟩ := h.mem
  obtain ⟨c0, _⟩ := cells1 hb
  have hh : RowHas w (.pointer p) V n := by
    rcases hp with ⟨rfl, rfl, rfl⟩ | ⟨rb, rfl, hr⟩
    · exact RowHas.none w
    · exact RowHas.row hr
  have hc := copy_of _ V n w hh
  clear hp hb h hh
  go_enter Tryd.func11, Tryd.ntmps11
  go_wp2_with (go_at_call 37; refine hc.mono ?_; rintro e w1 ⟨c, rfl, hr, hm⟩; have H1 := Hid.mk (And.intro hr hm); clear hr hm)
  go_ret
  exact ⟨_, rfl, H1.out⟩

theorem none_row (w : World) : Calls Tryd.prog 11 #[.pointer none] w fun e w' => ∃ c, e = .returned (.pointer (some ⟨c, 0, none⟩)) ∧ RowAt w' w.heap.size c 0 0 ∧ More w w' := by
  go_enter Tryd.func11, Tryd.ntmps11
  go_wp2_with (go_at_call 36; refine (new_row _).mono ?_; rintro e w' ⟨rfl, rfl⟩)
  go_ret
  exact ⟨_, rfl, ⟨Nat.le_refl _, by decide, by decide, _, heap_alloc_new _ _, World.ownsRow_nil _ _ _ _⟩, (Below.refl _ w).alloc (Nat.le_refl _) _⟩

theorem none_fixed (x N : Int) (w : World) : Calls Tryd.prog 34 #[.pointer none, .int .u64 x, .int .i64 N] w fun e w' => e = .returned (.int .i64 11) ∧ w' = w := by
  go_enter Tryd.func34, Tryd.ntmps34
  go_wp2
  go_ret
  exact ⟨rfl, rfl⟩
theorem none_unary (N : Int) (w : World) : Calls Tryd.prog 35 #[.pointer none, .int .i64 N] w fun e w' => e = .returned (.int .i64 11) ∧ w' = w := by
  go_enter Tryd.func35, Tryd.ntmps35
  go_wp2
  go_ret
  exact ⟨rfl, rfl⟩
theorem none_gamma (x : Int) (w : World) : Calls Tryd.prog 24 #[.pointer none, .int .u64 x] w fun e w' => e = .returned (.int .i64 11) ∧ w' = w := by
  go_enter Tryd.func24, Tryd.ntmps24
  go_wp2
  go_ret
  exact ⟨rfl, rfl⟩
theorem none_rice (x N : Int) (w : World) : Calls Tryd.prog 25 #[.pointer none, .int .u64 x, .int .i64 N] w fun e w' => e = .returned (.int .i64 11) ∧ w' = w := by
  go_enter Tryd.func25, Tryd.ntmps25
  go_wp2
  go_ret
  exact ⟨rfl, rfl⟩

/-- A reader of the n bits of V, at the bit a, with the error E, lies at block b. -/
structure RdAt (w : World) (base b V n a E : Nat) : Prop where
  lo : base ≤ b
  sz : base ≤ w.heap.size
  le : a ≤ n
  mem : ∃ rb, w.heap[b]? = some (.cells #[.pointer (some ⟨rb, 0, none⟩), .int .i64 a, .int .i64 E] 74 (0, 0)) ∧ RowAt w base rb V n

theorem RdAt.more {w w' : World} {base b V n a E : Nat} (h : RdAt w base b V n a E) (k : More w w') : RdAt w' base b V n a E := by
  obtain ⟨rb, hb, hr⟩ := h.mem
  exact ⟨h.lo, Nat.le_trans h.sz k.size, h.le, rb, by rw [k.block b (lt_of_block hb)]; exact hb, k.row hr⟩

theorem cells3_at {w : World} {b : Nat} {u v x : Value} {t : TypeId} (h : w.heap[b]? = some (.cells #[u, v, x] t (0, 0))) :
    w.cell? ⟨b, 0, none⟩ = some u ∧ w.cell? ⟨b, 1, none⟩ = some v ∧ w.cell? ⟨b, 2, none⟩ = some x ∧ w.frozen? ⟨b, 1, none⟩ = false ∧ w.frozen? ⟨b, 2, none⟩ = false := by
  simp [World.cell?, World.frozen?, h]

set_option maxRecDepth 1000000 in
theorem rd_open (p : Value) (V n : Nat) (w : World) (h : RowHas w p V n) :
    Calls Tryd.prog 17 #[p] w fun e w' => ∃ b, e = .returned (.pointer (some ⟨b, 0, none⟩)) ∧ RdAt w' w.heap.size b V n 0 0 ∧ More w w' := by
  have hc := copy_of _ V n w h
  clear h
  go_enter Tryd.func17, Tryd.ntmps17
  go_wp2_with (go_at_call 37; refine hc.mono ?_; rintro e w1 ⟨c, rfl, hr, hm⟩; have H1 := Hid.mk (And.intro hr hm); clear hr hm hc)
  go_ret
  have hk := (Below.refl w1.heap.size w1).alloc (Nat.le_refl _) (.cells #[.pointer (some ⟨c, 0, none⟩), .int .i64 0, .int .i64 0] 74)
  exact ⟨_, rfl, ⟨H1.out.2.size, by have := H1.out.2.size; simp; omega, Nat.zero_le _, c, heap_alloc_new _ _, More.row H1.out.1 hk⟩, More.trans H1.out.2 hk⟩

theorem RdAt.row_off {w : World} {base rb V n b : Nat} {cs : Array Value} {p : Addr} {x : Value} (h : RowAt w base rb V n) (hb : w.heap[b]? = some (.cells cs 74 (0, 0))) (hp : p.block = b) : RowAt (w.setCell p x) base rb V n := by
  subst hp
  obtain ⟨v, hm, hown⟩ := h.mem
  refine ⟨h.lo, h.fit, h.len, v, set_off hm (fun e => ?_), ownsRow_setCell_other hown (own_ne hb hown (by decide)) _⟩
  rw [e, hb] at hm
  simp at hm

/-- The reader goes on. -/
theorem RdAt.goes {w : World} {base b V n a E a' : Nat} (h : RdAt w base b V n a E) (ha : a' ≤ n) : RdAt (w.setCell ⟨b, 1, none⟩ (.int .i64 a')) base b V n a' E ∧ Below base w (w.setCell ⟨b, 1, none⟩ (.int .i64 a')) := by
  obtain ⟨rb, hb, hr⟩ := h.mem
  refine ⟨⟨h.lo, by simpa using h.sz, ha, rb, ?_, RdAt.row_off hr hb rfl⟩, (Below.refl _ _).setCell h.lo _⟩
  simpa using heap_setCell_same w b 1 #[.pointer (some ⟨rb, 0, none⟩), .int .i64 a, .int .i64 E] 74 (.int .i64 a') hb
/-- The reader has an error. -/
theorem RdAt.errs {w : World} {base b V n a E E' : Nat} (h : RdAt w base b V n a E) : RdAt (w.setCell ⟨b, 2, none⟩ (.int .i64 E')) base b V n a E' ∧ Below base w (w.setCell ⟨b, 2, none⟩ (.int .i64 E')) := by
  obtain ⟨rb, hb, hr⟩ := h.mem
  refine ⟨⟨h.lo, by simpa using h.sz, h.le, rb, ?_, RdAt.row_off hr hb rfl⟩, (Below.refl _ _).setCell h.lo _⟩
  simpa using heap_setCell_same w b 2 #[.pointer (some ⟨rb, 0, none⟩), .int .i64 a, .int .i64 E] 74 (.int .i64 E') hb

end Go.Proofs.YtgcjbkcfcklcfaaDoor
