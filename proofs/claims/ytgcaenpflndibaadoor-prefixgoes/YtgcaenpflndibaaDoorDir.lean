/-
  rankdir's New: the directory of a row.
-/
import Derived.Test.YtgcaenpflndibaaDoorRefB
namespace Go.Proofs.YtgcaenpflndibaaDoor
open Go.RowKit

/-- The cells of K ints. -/
def ints (f : Nat → Nat) (K : Nat) : List Value := (List.range K).map fun i => Value.int .i64 (f i : Nat)
theorem ints_len (f : Nat → Nat) (K : Nat) : (ints f K).length = K := by simp [ints]
theorem ints_get (f : Nat → Nat) (K i : Nat) (h : i < K) : (ints f K)[i]? = some (.int .i64 (f i : Nat)) := by simp [ints, h]
theorem ints_succ (f : Nat → Nat) (K : Nat) : ints f (K + 1) = ints f K ++ [.int .i64 (f K : Nat)] := by simp [ints, List.range_succ]
theorem ints_congr {f g : Nat → Nat} {K : Nat} (h : ∀ i, i < K → f i = g i) : ints f K = ints g K := by
  unfold ints
  apply List.map_congr_left
  intro i hi
  rw [h i (by simpa using hi)]

/-- How many spans begin in n bits. -/
def nm (n : Nat) : Nat := (nw n + 7) / 8
/-- The mark i of a row. -/
def mk (V n i : Nat) : Nat := rk V (min (512 * i) n)
theorem mk_below (V n i : Nat) (h : i < nm n) : mk V n i = rk V (512 * i) := by
  unfold mk; rw [Nat.min_eq_left (by unfold nm nw at h; omega)]
theorem mk_last (V n : Nat) : mk V n (nm n) = rk V n := by
  unfold mk; rw [Nat.min_eq_right (by unfold nm nw; omega)]
theorem mk_span (V n j : Nat) (h : j ≤ n) : mk V n (j / 512) = rk V (512 * (j / 512)) := by
  unfold mk; rw [Nat.min_eq_left (by omega)]
theorem mk_all (V n : Nat) : ints (fun i => rk V (512 * i)) (nm n) ++ [.int .i64 (rk V n : Nat)] = ints (mk V n) (nm n + 1) := by
  rw [ints_succ, mk_last, ints_congr (f := mk V n) (g := fun i => rk V (512 * i)) fun i hi => mk_below V n i hi]

theorem cells3 {w : World} {b : Nat} {u v x : Value} {t : TypeId} (h : w.heap[b]? = some (.cells #[u, v, x] t (0, 0))) :
    w.cell? ⟨b, 0, none⟩ = some u ∧ w.cell? ⟨b, 1, none⟩ = some v ∧ w.cell? ⟨b, 2, none⟩ = some x ∧ w.frozen? ⟨b, 1, none⟩ = false := by
  simp [World.cell?, World.frozen?, h]
theorem set3_1 {w : World} {b : Nat} {u v x y : Value} {t : TypeId} (h : w.heap[b]? = some (.cells #[u, v, x] t (0, 0))) : (w.setCell ⟨b, 1, none⟩ y).heap[b]? = some (.cells #[u, y, x] t (0, 0)) := by
  simpa using heap_setCell_same w b 1 #[u, v, x] t y h

/-- Rows of different kinds lie apart. -/
theorem own_apart {w : World} {base n n' : Nat} {v v' : Value} {xs ys : List Value} {e e' : TypeId} (h : w.ownsRow base e 1 v n xs) (h' : w.ownsRow base e' 1 v' n' ys) (hne : e ≠ e') : v.ownBlock = none ∨ v.ownBlock ≠ v'.ownBlock := by
  rcases h.2 with ⟨rfl, _⟩ | ⟨g, cap, cur, rfl, _, hg, _⟩
  · exact .inl rfl
  · right
    intro he
    have := own_ne hg h' hne
    simp only [Value.ownBlock] at he this
    exact this he.symm

/-- The directory of a row lies at block d, from block 'base' on: so are its marks so far. -/
structure DirMem (w : World) (base d n K : Nat) (v : Value) (xs : List Value) (L : Nat) (ys : List Value) : Prop where
  lo : base ≤ d
  mem : ∃ m, w.heap[d]? = some (.cells #[v, m, .int .i64 n] 82 (0, 0)) ∧ w.ownsRow base 57 1 v K xs ∧ w.ownsRow base 3 1 m L ys

theorem dir_grow {w w3 w4 : World} {base d K L n n' : Nat} {v m m' : Value} {xs ys ys' : List Value} {o : Obj} (hk : Below base w w3) (hb : w3.heap[d]? = some (.cells #[v, m, .int .i64 n] 82 (0, 0))) (hlo : base ≤ d) (hsz : base ≤ w3.heap.size)
    (hv : w3.ownsRow base 57 1 v K xs) (hm : w3.ownsRow base 3 1 m L ys) (hm4 : w4.ownsRow base 3 1 m' n' ys') (hg : (w3.alloc o).grownBy w4 m.ownBlock) :
    w4.heap[d]? = some (.cells #[v, m, .int .i64 n] 82 (0, 0)) ∧ w4.ownsRow base 57 1 v K xs ∧ DirMem (w4.setCell ⟨d, 1, none⟩ m') base d n K v xs n' ys' ∧ Below base w (w4.setCell ⟨d, 1, none⟩ m') := by
  have hlt := lt_of_block hb
  have ha : (w3.alloc o).heap[d]? = some (.cells #[v, m, .int .i64 n] 82 (0, 0)) := by rw [Below.heap_alloc _ _ _ hlt]; exact hb
  have h4 : w4.heap[d]? = some (.cells #[v, m, .int .i64 n] 82 (0, 0)) := by
    rw [hg.block d (lt_of_block ha) (Ne.symm (own_ne hb hm (by decide)))]; exact ha
  have hv4 : w4.ownsRow base 57 1 v K xs := (hv.alloc o).kept hg (own_apart hv hm (by decide))
  have hka : Below base w (w3.alloc o) := hk.alloc hsz o
  have hk4 : Below base w w4 := hka.grown hg (by simp; omega) (fun k hk => (hm.lt k hk).1)
  exact ⟨h4, hv4, ⟨hlo, _, set3_1 h4, ownsRow_setCell_other hv4 (own_ne h4 hv4 (by decide)) _, ownsRow_setCell_other hm4 (own_ne h4 hm4 (by decide)) _⟩, hk4.setCell (p := ⟨d, 1, none⟩) hlo _⟩

/-- The directory of the n bits of V lies at block d, from block 'base' on. -/
structure DirAt (w : World) (base d V n : Nat) : Prop where
  fit : V < 2 ^ n
  len : n ≤ 1099511627776
  mem : ∃ v, DirMem w base d n (nw n) v (u64s (wd V) (nw n)) (nm n + 1) (ints (mk V n) (nm n + 1))

/-- What New reads of a row, or of nil. -/
structure RowOr (w : World) (p : Value) (V n : Nat) : Prop where
  fit : V < 2 ^ n
  len : n ≤ 1099511627776
  words : Calls Tryd.prog 34 #[p] w fun e w' => ∃ v', e = .returned v' ∧ w'.ownsRow w.heap.size 57 1 v' (nw n) (u64s (wd V) (nw n)) ∧ More w w'
  lenAt : ∀ w', More w w' → Calls Tryd.prog 37 #[p] w' fun e w'' => e = .returned (.int .i64 n) ∧ w'' = w'

theorem RowOr.row {w : World} {base b V n : Nat} (h : RowAt w base b V n) : RowOr w (.pointer (some ⟨b, 0, none⟩)) V n :=
  ⟨h.fit, h.len, (row_words base b V n w h).mono fun _ _ ⟨v', he, ho, hk⟩ => ⟨v', he, ho, hk.below⟩, fun w' hm => row_len b n w' (hm.row h).rd.c1⟩
theorem RowOr.none (w : World) : RowOr w (.pointer none) 0 0 :=
  ⟨by decide, by decide, (nil_words w).mono fun _ _ ⟨he, hw⟩ => ⟨_, he, by rw [hw]; exact World.ownsRow_nil _ _ _ _, by rw [hw]; exact Below.refl _ _⟩, fun w' _ => nil_len w'⟩

theorem Tryd.infoInt : (Tryd.prog.info? 3).map (fun i => (i.zero, i.size, i.bytes)) = some (some (.int .i64 0), 1, 8) := by kernel_rfl
theorem one_i64 (z : Int) : ∀ u ∈ [Value.int .i64 z], u.oneCell' = true := by intro u hu; simp at hu; subst hu; rfl

theorem marks_step (V k : Nat) (h : k % 8 = 0) : ints (fun i => rk V (512 * i)) ((k + 7) / 8) ++ [.int .i64 (rk V (64 * k) : Nat)] = ints (fun i => rk V (512 * i)) ((k + 1 + 7) / 8) := by
  rw [show (k + 1 + 7) / 8 = (k + 7) / 8 + 1 by omega, ints_succ, show 512 * ((k + 7) / 8) = 64 * k by omega]

set_option maxHeartbeats 800000 in
set_option maxRecDepth 1000000 in
theorem dir_new (p : Value) (V n : Nat) (w : World) (h : RowOr w p V n) :
    Calls Tryd.prog 35 #[p] w fun e w' => ∃ d, e = .returned (.pointer (some ⟨d, 0, none⟩)) ∧ DirAt w' w.heap.size d V n ∧ More w w' := by
  obtain ⟨i0, hi, hz0, hz1, hz2⟩ := info_parts Tryd.infoInt
  obtain ⟨hfit, hlen, hw, hl⟩ := h
  obtain ⟨K, hK⟩ : ∃ K, nw n = K := ⟨_, rfl⟩
  have hKb : 64 * K ≤ 1099511627840 := by unfold nw at hK; omega
  rw [hK] at hw
  have HH : Hid _ := And.intro hfit (And.intro hlen hK)
  clear hfit hlen hK
  go_enter Tryd.func35, Tryd.ntmps35
  go_wp2_with (first
    | (go_at_call 34; refine hw.mono ?_; rintro e w1 ⟨v', rfl, hown, hm⟩; obtain ⟨ao, cap, rfl⟩ := shape_of hown; have H1 := Hid.mk (And.intro hown hm); clear hown hm)
    | (go_at_call 37; refine (hl _ H1.out.2).mono ?_; rintro e w2 ⟨rfl, hw2⟩; subst w2))
  have hd0 : DirMem (w1.alloc (.cells #[.slice ao K cap, .slice none 0 0, .int .i64 n] 82)) w.heap.size w1.heap.size n K (.slice ao K cap) (u64s (wd V) K) 0 (ints (fun i => rk V (512 * i)) 0) :=
    ⟨H1.out.2.size, _, heap_alloc_new _ _, H1.out.1.alloc _, World.ownsRow_nil _ _ _ _⟩
  have HD : Hid _ := And.intro hd0 (Below.alloc H1.out.2 H1.out.2.size (.cells #[.slice ao K cap, .slice none 0 0, .int .i64 n] 82))
  clear hd0
  go_loopw [17, 4] (fun i o wr => ∃ k O : Nat, k ≤ K ∧ i = .int .i64 k ∧ o = .int .i64 O ∧ O ≤ 64 * k ∧ Hid (O = rk V (64 * k)) ∧ Hid (DirMem wr w.heap.size w1.heap.size n K (.slice ao K cap) (u64s (wd V) K) ((k + 7) / 8) (ints (fun i => rk V (512 * i)) ((k + 7) / 8)) ∧ Below w.heap.size w wr)) (fun i _ _ => K - (intOf i).toNat)
  case atStart => exact ⟨0, 0, Nat.zero_le _, rfl, rfl, Nat.zero_le _, Hid.mk rfl, Hid.mk HD.out⟩
  case round =>
    obtain ⟨k, O, hk, rfl, rfl, hO, HO, HR⟩ := hrel
    obtain ⟨m, hb, hv, hm⟩ := HR.out.1.mem
    obtain ⟨am, cm, rfl⟩ := shape_of hm
    obtain ⟨c0, c1, c2, f1⟩ := cells3 hb
    have hlt := lt_of_block hb
    by_cases hkK : k < K
    · obtain ⟨g, cap', he⟩ : ∃ g cap', Value.slice ao K cap = .slice (some ⟨g, 0, none⟩) K cap' := by
        rcases hv.2 with ⟨_, h⟩ | ⟨g, cap, _, h, _⟩
        · omega
        · exact ⟨g, cap, h⟩
      simp only [Value.slice.injEq, true_and] at he
      obtain ⟨rfl, rfl⟩ := he
      have hgd : ¬ g = w1.heap.size := fun e => own_ne hb hv (by decide) (by simp [Value.ownBlock, e])
      have hx := wd_lt V k
      by_cases h8 : k % 8 = 0
      · have h8' : (k : Int) % 8 = 0 := by omega
        have HB : Hid _ := And.intro hb (And.intro hv (And.intro hm h8))
        clear hb hv hm h8
        go_wp2_with (first
          | (go_at_call 54; refine (ones _ (wd_lt V k) _).mono ?_; rintro e w' ⟨rfl, hw'⟩; subst w')
          | (at_builtin; refine wpList_append_own _ rfl (.tmp 27) (.tmp 29) 22 rfl w.heap.size 3 i0 (.int .i64 0) 1 8 Tryd.underlying22 hi hz0 hz1 hz2 rfl (by decide) _ _ _ rfl (HB.out.2.2.1.alloc _) ⟨wr.heap.size, 0, none⟩ 1 1 [.int .i64 (O : Int)] rfl rfl ?c1 ?c2 ?c3 ?c4 ?c5 ?_))
        case c1 => exact one_cell _ _ _
        case c2 => exact one_i64 _
        case c3 => unfold maxLen; omega
        case c4 => omega
        case c5 => have := HR.out.2.size; simp; omega
        intro m' w4 hm4 hgrow _
        obtain ⟨h4, hv4, hD, hB4⟩ := dir_grow HR.out.2 HB.out.1 HR.out.1.lo HR.out.2.size HB.out.2.1 HB.out.2.2.1 hm4 hgrow
        rw [HO.out, marks_step V k HB.out.2.2.2, show (k + 7) / 8 + 1 = (k + 1 + 7) / 8 by have := HB.out.2.2.2; omega] at hD
        obtain ⟨k0, k1, k2, l1⟩ := cells3 h4
        have kg := hv4.cellAt k (by omega)
        rw [u64s_get _ _ _ hkK] at kg
        obtain ⟨am', cm', rfl⟩ := shape_of hm4
        have H4 : Hid _ := And.intro hD hB4
        clear hm4 hgrow h4 hv4 hD hB4 HB HR c0 c1 c2 f1 hlt
        have hr64 := rk_le (wd V k) 64
        go_wp2_with (go_at_call 54; refine (ones _ (wd_lt V k) _).mono ?_; rintro e w' ⟨rfl, hw'⟩; subst w')
        refine ⟨⟨k + 1, O + rk (wd V k) 64, by omega, by go_num, by go_num, by omega, Hid.mk (by rw [HO.out, rk_wd]), Hid.mk H4.out⟩, by simp [intOf]; omega⟩
      · have h8' : ¬ (k : Int) % 8 = 0 := by omega
        have kg := hv.cellAt k (by omega)
        rw [u64s_get _ _ _ hkK] at kg
        have HB : Hid _ := h8
        clear hb hv hm h8
        have hr64 := rk_le (wd V k) 64
        go_wp2_with (go_at_call 54; refine (ones _ (wd_lt V k) _).mono ?_; rintro e w' ⟨rfl, hw'⟩; subst w')
        refine ⟨⟨k + 1, O + rk (wd V k) 64, by omega, by go_num, by go_num, by omega, Hid.mk (by rw [HO.out, rk_wd]), Hid.mk ?_⟩, by simp [intOf]; omega⟩
        have := HB.out
        rw [show (k + 1 + 7) / 8 = (k + 7) / 8 by omega]
        exact HR.out
    · obtain rfl : k = K := by omega
      have HB : Hid _ := And.intro hb (And.intro hv hm)
      clear hb hv hm
      go_wp2_with (at_builtin; refine wpList_append_own _ rfl (.tmp 48) (.tmp 50) 22 rfl w.heap.size 3 i0 (.int .i64 0) 1 8 Tryd.underlying22 hi hz0 hz1 hz2 rfl (by decide) _ _ _ rfl (HB.out.2.2.alloc _) ⟨wr.heap.size, 0, none⟩ 1 1 [.int .i64 (O : Int)] rfl rfl ?d1 ?d2 ?d3 ?d4 ?d5 ?_)
      case d1 => exact one_cell _ _ _
      case d2 => exact one_i64 _
      case d3 => unfold maxLen; omega
      case d4 => omega
      case d5 => have := HR.out.2.size; simp; omega
      intro m' w4 hm4 hgrow _
      obtain ⟨h4, hv4, hD, hB4⟩ := dir_grow HR.out.2 HB.out.1 HR.out.1.lo HR.out.2.size HB.out.2.1 HB.out.2.2 hm4 hgrow
      obtain ⟨k0, k1, k2, l1⟩ := cells3 h4
      obtain ⟨am', cm', rfl⟩ := shape_of hm4
      have H4 : Hid _ := And.intro hD hB4
      clear hm4 hgrow h4 hv4 hD hB4 HB HR c0 c1 c2 f1 hlt
      go_wp2
      go_ret
      obtain ⟨hfit, hlen, rfl⟩ := HH.out
      have hO2 := HO.out
      rw [rk_words hfit] at hO2
      have hl2 : ints (fun i => rk V (512 * i)) ((nw n + 7) / 8) ++ [.int .i64 (O : Int)] = ints (mk V n) (nm n + 1) := by rw [hO2]; exact mk_all V n
      have hD := H4.out.1
      rw [hl2] at hD
      exact ⟨_, rfl, ⟨hfit, hlen, _, hD⟩, H4.out.2⟩

end Go.Proofs.YtgcaenpflndibaaDoor
