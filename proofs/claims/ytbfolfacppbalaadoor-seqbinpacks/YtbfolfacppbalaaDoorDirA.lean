/-
  rankdir's New: the directory of a row.
  rankdir's Len, Rank, Zeros, Marks; of nil too.
  The k-th one and the k-th nought of a row: plain facts, no Go in sight.
  Numbers of one width, one behind the other; the least width of some numbers.
-/
import Derived.Test.YtbfolfacppbalaaDoorRowDoc
namespace Go.Proofs.YtbfolfacppbalaaDoor
open Go.RowKit

/-- The cells of K ints. -/
def ints (f : Nat → Nat) (K : Nat) : List Value := (List.range K).map fun i => Value.int .i64 (f i : Nat)
theorem ints_len (f : Nat → Nat) (K : Nat) : (ints f K).length = K := by simp [ints]
theorem ints_get (f : Nat → Nat) (K i : Nat) (h : i < K) : (ints f K)[i]? = some (.int .i64 (f i : Nat)) := by simp [ints, h]
theorem ints_succ (f : Nat → Nat) (K : Nat) : ints f (K + 1) = ints f K ++ [.int .i64 (f K : Nat)] := by simp [ints, List.range_succ]
theorem ints_congr {f g : Nat → Nat} {K : Nat} (h : ∀ i, i < K → f i = g i) : ints f K = ints g K := by
  unfold ints
  apply List.map_congr_left
  intro i hi
  rw [h i (by simpa using hi)]

/-- How many spans begin in n bits. -/
def nm (n : Nat) : Nat := (nw n + 7) / 8
/-- The mark i of a row. -/
def mk (V n i : Nat) : Nat := rk V (min (512 * i) n)
theorem mk_below (V n i : Nat) (h : i < nm n) : mk V n i = rk V (512 * i) := by
  unfold mk; rw [Nat.min_eq_left (by unfold nm nw at h; omega)]
theorem mk_last (V n : Nat) : mk V n (nm n) = rk V n := by
  unfold mk; rw [Nat.min_eq_right (by unfold nm nw; omega)]
theorem mk_span (V n j : Nat) (h : j ≤ n) : mk V n (j / 512) = rk V (512 * (j / 512)) := by
  unfold mk; rw [Nat.min_eq_left (by omega)]
theorem mk_all (V n : Nat) : ints (fun i => rk V (512 * i)) (nm n) ++ [.int .i64 (rk V n : Nat)] = ints (mk V n) (nm n + 1) := by
  rw [ints_succ, mk_last, ints_congr (f := mk V n) (g := fun i => rk V (512 * i)) fun i hi => mk_below V n i hi]

theorem cells3 {w : World} {b : Nat} {u v x : Value} {t : TypeId} (h : w.heap[b]? = some (.cells #[u, v, x] t (0, 0))) :
    w.cell? ⟨b, 0, none⟩ = some u ∧ w.cell? ⟨b, 1, none⟩ = some v ∧ w.cell? ⟨b, 2, none⟩ = some x ∧ w.frozen? ⟨b, 1, none⟩ = false := by
  simp [World.cell?, World.frozen?, h]
theorem set3_1 {w : World} {b : Nat} {u v x y : Value} {t : TypeId} (h : w.heap[b]? = some (.cells #[u, v, x] t (0, 0))) : (w.setCell ⟨b, 1, none⟩ y).heap[b]? = some (.cells #[u, y, x] t (0, 0)) := by
  simpa using heap_setCell_same w b 1 #[u, v, x] t y h

/-- Rows of different kinds lie apart. -/
theorem own_apart {w : World} {base n n' : Nat} {v v' : Value} {xs ys : List Value} {e e' : TypeId} (h : w.ownsRow base e 1 v n xs) (h' : w.ownsRow base e' 1 v' n' ys) (hne : e ≠ e') : v.ownBlock = none ∨ v.ownBlock ≠ v'.ownBlock := by
  rcases h.2 with ⟨rfl, _⟩ | ⟨g, cap, cur, rfl, _, hg, _⟩
  · exact .inl rfl
  · right
    intro he
    have := own_ne hg h' hne
    simp only [Value.ownBlock] at he this
    exact this he.symm

/-- The directory of a row lies at block d, from block 'base' on: so are its marks so far. -/
structure DirMem (w : World) (base d n K : Nat) (v : Value) (xs : List Value) (L : Nat) (ys : List Value) : Prop where
  lo : base ≤ d
  mem : ∃ m, w.heap[d]? = some (.cells #[v, m, .int .i64 n] 149 (0, 0)) ∧ w.ownsRow base 77 1 v K xs ∧ w.ownsRow base 3 1 m L ys

theorem dir_grow {w w3 w4 : World} {base d K L n n' : Nat} {v m m' : Value} {xs ys ys' : List Value} {o : Obj} (hk : Below base w w3) (hb : w3.heap[d]? = some (.cells #[v, m, .int .i64 n] 149 (0, 0))) (hlo : base ≤ d) (hsz : base ≤ w3.heap.size)
    (hv : w3.ownsRow base 77 1 v K xs) (hm : w3.ownsRow base 3 1 m L ys) (hm4 : w4.ownsRow base 3 1 m' n' ys') (hg : (w3.alloc o).grownBy w4 m.ownBlock) :
    w4.heap[d]? = some (.cells #[v, m, .int .i64 n] 149 (0, 0)) ∧ w4.ownsRow base 77 1 v K xs ∧ DirMem (w4.setCell ⟨d, 1, none⟩ m') base d n K v xs n' ys' ∧ Below base w (w4.setCell ⟨d, 1, none⟩ m') := by
  have hlt := lt_of_block hb
  have ha : (w3.alloc o).heap[d]? = some (.cells #[v, m, .int .i64 n] 149 (0, 0)) := by rw [Below.heap_alloc _ _ _ hlt]; exact hb
  have h4 : w4.heap[d]? = some (.cells #[v, m, .int .i64 n] 149 (0, 0)) := by
    rw [hg.block d (lt_of_block ha) (Ne.symm (own_ne hb hm (by decide)))]; exact ha
  have hv4 : w4.ownsRow base 77 1 v K xs := (hv.alloc o).kept hg (own_apart hv hm (by decide))
  have hka : Below base w (w3.alloc o) := hk.alloc hsz o
  have hk4 : Below base w w4 := hka.grown hg (by simp; omega) (fun k hk => (hm.lt k hk).1)
  exact ⟨h4, hv4, ⟨hlo, _, set3_1 h4, ownsRow_setCell_other hv4 (own_ne h4 hv4 (by decide)) _, ownsRow_setCell_other hm4 (own_ne h4 hm4 (by decide)) _⟩, hk4.setCell (p := ⟨d, 1, none⟩) hlo _⟩

/-- The directory of the n bits of V lies at block d, from block 'base' on. -/
structure DirAt (w : World) (base d V n : Nat) : Prop where
  fit : V < 2 ^ n
  len : n ≤ 1099511627776
  mem : ∃ v, DirMem w base d n (nw n) v (u64s (wd V) (nw n)) (nm n + 1) (ints (mk V n) (nm n + 1))

/-- What New reads of a row, or of nil. -/
structure RowOr (w : World) (p : Value) (V n : Nat) : Prop where
  fit : V < 2 ^ n
  len : n ≤ 1099511627776
  words : Calls Tryd.prog 20 #[p] w fun e w' => ∃ v', e = .returned v' ∧ w'.ownsRow w.heap.size 77 1 v' (nw n) (u64s (wd V) (nw n)) ∧ More w w'
  lenAt : ∀ w', More w w' → Calls Tryd.prog 18 #[p] w' fun e w'' => e = .returned (.int .i64 n) ∧ w'' = w'

theorem RowOr.row {w : World} {base b V n : Nat} (h : RowAt w base b V n) : RowOr w (.pointer (some ⟨b, 0, none⟩)) V n :=
  ⟨h.fit, h.len, (row_words base b V n w h).mono fun _ _ ⟨v', he, ho, hk⟩ => ⟨v', he, ho, hk.below⟩, fun w' hm => row_len b n w' (hm.row h).rd.c1⟩
theorem RowOr.none (w : World) : RowOr w (.pointer none) 0 0 :=
  ⟨by decide, by decide, (nil_words w).mono fun _ _ ⟨he, hw⟩ => ⟨_, he, by rw [hw]; exact World.ownsRow_nil _ _ _ _, by rw [hw]; exact Below.refl _ _⟩, fun w' _ => nil_len w'⟩

theorem Tryd.infoInt : (Tryd.prog.info? 3).map (fun i => (i.zero, i.size, i.bytes)) = some (some (.int .i64 0), 1, 8) := by kernel_rfl
theorem one_i64 (z : Int) : ∀ u ∈ [Value.int .i64 z], u.oneCell' = true := by intro u hu; simp at hu; subst hu; rfl

theorem marks_step (V k : Nat) (h : k % 8 = 0) : ints (fun i => rk V (512 * i)) ((k + 7) / 8) ++ [.int .i64 (rk V (64 * k) : Nat)] = ints (fun i => rk V (512 * i)) ((k + 1 + 7) / 8) := by
  rw [show (k + 1 + 7) / 8 = (k + 7) / 8 + 1 by omega, ints_succ, show 512 * ((k + 7) / 8) = 64 * k by omega]

set_option maxHeartbeats 800000 in
set_option maxRecDepth 1000000 in
theorem dir_new (p : Value) (V n : Nat) (w : World) (h : RowOr w p V n) :
    Calls Tryd.prog 96 #[p] w fun e w' => ∃ d, e = .returned (.pointer (some ⟨d, 0, none⟩)) ∧ DirAt w' w.heap.size d V n ∧ More w w' := by
  obtain ⟨i0, hi, hz0, hz1, hz2⟩ := info_parts Tryd.infoInt
  obtain ⟨hfit, hlen, hw, hl⟩ := h
  obtain ⟨K, hK⟩ : ∃ K, nw n = K := ⟨_, rfl⟩
  have hKb : 64 * K ≤ 1099511627840 := by unfold nw at hK; omega
  rw [hK] at hw
  have HH : Hid _ := And.intro hfit (And.intro hlen hK)
  clear hfit hlen hK
  go_enter Tryd.func96, Tryd.ntmps96
  go_wp2_with (first
    | (go_at_call 20; refine hw.mono ?_; rintro e w1 ⟨v', rfl, hown, hm⟩; obtain ⟨ao, cap, rfl⟩ := shape_of hown; have H1 := Hid.mk (And.intro hown hm); clear hown hm)
    | (go_at_call 18; refine (hl _ H1.out.2).mono ?_; rintro e w2 ⟨rfl, hw2⟩; subst w2))
  have hd0 : DirMem (w1.alloc (.cells #[.slice ao K cap, .slice none 0 0, .int .i64 n] 149)) w.heap.size w1.heap.size n K (.slice ao K cap) (u64s (wd V) K) 0 (ints (fun i => rk V (512 * i)) 0) :=
    ⟨H1.out.2.size, _, heap_alloc_new _ _, H1.out.1.alloc _, World.ownsRow_nil _ _ _ _⟩
  have HD : Hid _ := And.intro hd0 (Below.alloc H1.out.2 H1.out.2.size (.cells #[.slice ao K cap, .slice none 0 0, .int .i64 n] 149))
  clear hd0
  go_loopw [17, 4] (fun i o wr => ∃ k O : Nat, k ≤ K ∧ i = .int .i64 k ∧ o = .int .i64 O ∧ O ≤ 64 * k ∧ Hid (O = rk V (64 * k)) ∧ Hid (DirMem wr w.heap.size w1.heap.size n K (.slice ao K cap) (u64s (wd V) K) ((k + 7) / 8) (ints (fun i => rk V (512 * i)) ((k + 7) / 8)) ∧ Below w.heap.size w wr)) (fun i _ _ => K - (intOf i).toNat)
  case atStart => exact ⟨0, 0, Nat.zero_le _, rfl, rfl, Nat.zero_le _, Hid.mk rfl, Hid.mk HD.out⟩
  case round =>
    obtain ⟨k, O, hk, rfl, rfl, hO, HO, HR⟩ := hrel
    obtain ⟨m, hb, hv, hm⟩ := HR.out.1.mem
    obtain ⟨am, cm, rfl⟩ := shape_of hm
    obtain ⟨c0, c1, c2, f1⟩ := cells3 hb
    have hlt := lt_of_block hb
    by_cases hkK : k < K
    · obtain ⟨g, cap', he⟩ : ∃ g cap', Value.slice ao K cap = .slice (some ⟨g, 0, none⟩) K cap' := by
        rcases hv.2 with ⟨_, h⟩ | ⟨g, cap, _, h, _⟩
        · omega
        · exact ⟨g, cap, h⟩
      simp only [Value.slice.injEq, true_and] at he
      obtain ⟨rfl, rfl⟩ := he
      have hgd : ¬ g = w1.heap.size := fun e => own_ne hb hv (by decide) (by simp [Value.ownBlock, e])
      have hx := wd_lt V k
      by_cases h8 : k % 8 = 0
      · have h8' : (k : Int) % 8 = 0 := by omega
        have HB : Hid _ := And.intro hb (And.intro hv (And.intro hm h8))
        clear hb hv hm h8
        go_wp2_with (first
          | (go_at_call 105; refine (ones _ (wd_lt V k) _).mono ?_; rintro e w' ⟨rfl, hw'⟩; subst w')
          | (at_builtin; refine wpList_append_own _ rfl (.tmp 27) (.tmp 29) 61 rfl w.heap.size 3 i0 (.int .i64 0) 1 8 Tryd.underlying61 hi hz0 hz1 hz2 rfl (by decide) _ _ _ rfl (HB.out.2.2.1.alloc _) ⟨wr.heap.size, 0, none⟩ 1 1 [.int .i64 (O : Int)] rfl rfl ?c1 ?c2 ?c3 ?c4 ?c5 ?_))
        case c1 => exact one_cell _ _ _
        case c2 => exact one_i64 _
        case c3 => unfold maxLen; omega
        case c4 => omega
        case c5 => have := HR.out.2.size; simp; omega
        intro m' w4 hm4 hgrow _
        obtain ⟨h4, hv4, hD, hB4⟩ := dir_grow HR.out.2 HB.out.1 HR.out.1.lo HR.out.2.size HB.out.2.1 HB.out.2.2.1 hm4 hgrow
        rw [HO.out, marks_step V k HB.out.2.2.2, show (k + 7) / 8 + 1 = (k + 1 + 7) / 8 by have := HB.out.2.2.2; omega] at hD
        obtain ⟨k0, k1, k2, l1⟩ := cells3 h4
        have kg := hv4.cellAt k (by omega)
        rw [u64s_get _ _ _ hkK] at kg
        obtain ⟨am', cm', rfl⟩ := shape_of hm4
        have H4 : Hid _ := And.intro hD hB4
        clear hm4 hgrow h4 hv4 hD hB4 HB HR c0 c1 c2 f1 hlt
        have hr64 := rk_le (wd V k) 64
        go_wp2_with (go_at_call 105; refine (ones _ (wd_lt V k) _).mono ?_; rintro e w' ⟨rfl, hw'⟩; subst w')
        refine ⟨⟨k + 1, O + rk (wd V k) 64, by omega, by go_num, by go_num, by omega, Hid.mk (by rw [HO.out, rk_wd]), Hid.mk H4.out⟩, by simp [intOf]; omega⟩
      · have h8' : ¬ (k : Int) % 8 = 0 := by omega
        have kg := hv.cellAt k (by omega)
        rw [u64s_get _ _ _ hkK] at kg
        have HB : Hid _ := h8
        clear hb hv hm h8
        have hr64 := rk_le (wd V k) 64
        go_wp2_with (go_at_call 105; refine (ones _ (wd_lt V k) _).mono ?_; rintro e w' ⟨rfl, hw'⟩; subst w')
        refine ⟨⟨k + 1, O + rk (wd V k) 64, by omega, by go_num, by go_num, by omega, Hid.mk (by rw [HO.out, rk_wd]), Hid.mk ?_⟩, by simp [intOf]; omega⟩
        have := HB.out
        rw [show (k + 1 + 7) / 8 = (k + 7) / 8 by omega]
        exact HR.out
    · obtain rfl : k = K := by omega
      have HB : Hid _ := And.intro hb (And.intro hv hm)
      clear hb hv hm
      go_wp2_with (at_builtin; refine wpList_append_own _ rfl (.tmp 48) (.tmp 50) 61 rfl w.heap.size 3 i0 (.int .i64 0) 1 8 Tryd.underlying61 hi hz0 hz1 hz2 rfl (by decide) _ _ _ rfl (HB.out.2.2.alloc _) ⟨wr.heap.size, 0, none⟩ 1 1 [.int .i64 (O : Int)] rfl rfl ?d1 ?d2 ?d3 ?d4 ?d5 ?_)
      case d1 => exact one_cell _ _ _
      case d2 => exact one_i64 _
      case d3 => unfold maxLen; omega
      case d4 => omega
      case d5 => have := HR.out.2.size; simp; omega
      intro m' w4 hm4 hgrow _
      obtain ⟨h4, hv4, hD, hB4⟩ := dir_grow HR.out.2 HB.out.1 HR.out.1.lo HR.out.2.size HB.out.2.1 HB.out.2.2 hm4 hgrow
      obtain ⟨k0, k1, k2, l1⟩ := cells3 h4
      obtain ⟨am', cm', rfl⟩ := shape_of hm4
      have H4 : Hid _ := And.intro hD hB4
      clear hm4 hgrow h4 hv4 hD hB4 HB HR c0 c1 c2 f1 hlt
      go_wp2
      go_ret
      obtain ⟨hfit, hlen, rfl⟩ := HH.out
      have hO2 := HO.out
      rw [rk_words hfit] at hO2
      have hl2 : ints (fun i => rk V (512 * i)) ((nw n + 7) / 8) ++ [.int .i64 (O : Int)] = ints (mk V n) (nm n + 1) := by rw [hO2]; exact mk_all V n
      have hD := H4.out.1
      rw [hl2] at hD
      exact ⟨_, rfl, ⟨hfit, hlen, _, hD⟩, H4.out.2⟩

end Go.Proofs.YtbfolfacppbalaaDoor

namespace Go.Proofs.YtbfolfacppbalaaDoor
open Go.RowKit

/-- A slice of K ints is read. -/
def IRd (w : World) (v : Value) (K : Nat) (f : Nat → Nat) : Prop :=
  (K = 0 ∧ ∃ ao cap, v = .slice ao 0 cap) ∨ ∃ g cap, v = .slice (some ⟨g, 0, none⟩) K cap ∧ g < w.heap.size ∧ ∀ j, j < K → w.cell? ⟨g, j, none⟩ = some (.int .i64 (f j : Nat))
theorem ird_of_own {w : World} {base : Nat} {v : Value} {K : Nat} {f : Nat → Nat} (h : w.ownsRow base 3 1 v K (ints f K)) : IRd w v K f := by
  rcases h.2 with ⟨rfl, hn⟩ | ⟨g, cap, cur, rfl, _, hg, _⟩
  · exact .inl ⟨hn, _, _, rfl⟩
  · exact .inr ⟨g, cap, rfl, lt_of_block hg, fun j hj => by rw [h.cellAt j (by omega), ints_get _ _ _ hj]⟩
theorem IRd.shape {w : World} {v : Value} {K : Nat} {f : Nat → Nat} (h : IRd w v K f) : ∃ ao cap, v = .slice ao K cap := by
  rcases h with ⟨rfl, ao, cap, rfl⟩ | ⟨g, cap, rfl, _⟩
  · exact ⟨_, _, rfl⟩
  · exact ⟨_, _, rfl⟩
theorem IRd.more {w w' : World} {v : Value} {K : Nat} {f : Nat → Nat} (h : IRd w v K f) (k : More w w') : IRd w' v K f := by
  rcases h with h | ⟨g, cap, rfl, hg, hc⟩
  · exact .inl h
  · exact .inr ⟨g, cap, rfl, Nat.lt_of_lt_of_le hg k.size, fun j hj => (k.cell (p := ⟨g, j, none⟩) hg).trans (hc j hj)⟩

/-- A directory as it is read. -/
structure DirRd (w : World) (d V n : Nat) : Prop where
  fit : V < 2 ^ n
  len : n ≤ 1099511627776
  c2 : w.cell? ⟨d, 2, none⟩ = some (.int .i64 n)
  c0 : ∃ v, w.cell? ⟨d, 0, none⟩ = some v ∧ Rd w v (nw n) (wd V)
  c1 : ∃ m, w.cell? ⟨d, 1, none⟩ = some m ∧ IRd w m (nm n + 1) (mk V n)

theorem DirAt.rd {w : World} {base d V n : Nat} (h : DirAt w base d V n) : DirRd w d V n := by
  obtain ⟨v, _, m, hb, hv, hm⟩ := h.mem
  obtain ⟨c0, c1, c2, _⟩ := cells3 hb
  exact ⟨h.fit, h.len, c2, ⟨v, c0, rd_of_own hv⟩, ⟨m, c1, ird_of_own hm⟩⟩
theorem DirRd.more {w w' : World} {d V n : Nat} (h : DirRd w d V n) (k : More w w') : DirRd w' d V n := by
  obtain ⟨v, c0, hv⟩ := h.c0
  obtain ⟨m, c1, hm⟩ := h.c1
  have hd := World.block_lt_of_cell? w _ h.c2
  exact ⟨h.fit, h.len, (k.cell hd).trans h.c2, ⟨v, (k.cell (p := ⟨d, 0, none⟩) hd).trans c0, hv.more k⟩, ⟨m, (k.cell (p := ⟨d, 1, none⟩) hd).trans c1, hm.more k⟩⟩

/-- The number from 0 to n that is nearest to i. -/
def near (i : Int) (n : Nat) : Nat := min i.toNat n
theorem near_eq (i : Int) (n : Nat) : min (max i 0) (n : Int) = (near i n : Nat) := by unfold near; omega
theorem near_le (i : Int) (n : Nat) : near i n ≤ n := Nat.min_le_right _ _

theorem Rd.at {w : World} {ao : Option Addr} {K cap : Nat} {f : Nat → Nat} (h : Rd w (.slice ao K cap) K f) (hK : 0 < K) : ∃ g o, ao = some ⟨g, o, none⟩ ∧ ∀ k, k < K → w.cell? ⟨g, o + k, none⟩ = some (.int .u64 (f k : Nat)) := by
  rcases h with ⟨rfl, _⟩ | ⟨g, o, cap', h, hg, hc⟩
  · omega
  · simp at h
    exact ⟨g, o, h.1, hc⟩
theorem IRd.at {w : World} {ao : Option Addr} {K cap : Nat} {f : Nat → Nat} (h : IRd w (.slice ao K cap) K f) (hK : 0 < K) : ∃ g, ao = some ⟨g, 0, none⟩ ∧ ∀ k, k < K → w.cell? ⟨g, k, none⟩ = some (.int .i64 (f k : Nat)) := by
  rcases h with ⟨rfl, _⟩ | ⟨g, cap', h, hg, hc⟩
  · omega
  · simp at h
    exact ⟨g, h.1, hc⟩

theorem rk_low (V q r : Nat) (hr : r ≤ 64) : rk V (64 * q + r) = rk V (64 * q) + rk (wd V q) r := by
  rw [rk_add]
  unfold wd
  rw [rk_mod _ _ _ hr]

end Go.Proofs.YtbfolfacppbalaaDoor

namespace Go.Proofs.YtbfolfacppbalaaDoor

theorem bit_one {x p : Nat} : x / 2 ^ p % 2 = 1 ↔ x.testBit p = true := by rw [bit_eq]; simp
theorem rk_step (x i : Nat) : rk x (i + 1) = rk x i + (if x.testBit i = true then 1 else 0) := by
  rw [rk]
  by_cases h : x.testBit i = true
  · rw [if_pos h, bit_one.2 h]
  · rw [if_neg h]
    have h1 : ¬ x / 2 ^ i % 2 = 1 := fun h2 => h (bit_one.1 h2)
    omega

theorem sel_outN (x : Nat) (k : Int) (n : Nat) (h : k < 0 ∨ (rk x n : Int) ≤ k) : sel x k n = -1 := by
  refine sel_none x k n fun p hp h1 h2 => ?_
  have := rk_mono x (show p + 1 ≤ n by omega)
  rw [rk] at this
  omega

theorem sel_in (x n k : Nat) (h : k < rk x n) : ∃ p, p < n ∧ x / 2 ^ p % 2 = 1 ∧ rk x p = k := by
  induction n with
  | zero => simp [rk] at h
  | succ n ih =>
    by_cases h1 : k < rk x n
    · obtain ⟨p, hp, h2, h3⟩ := ih h1
      exact ⟨p, by omega, h2, h3⟩
    · rw [rk] at h
      exact ⟨n, by omega, by omega, by omega⟩

/-- The word has the one that is looked for, or fewer ones. -/
theorem sel_word (x k : Nat) : (∃ p : Nat, p < 64 ∧ sel x k 64 = p ∧ x / 2 ^ p % 2 = 1 ∧ rk x p = k) ∨ (sel x k 64 = -1 ∧ rk x 64 ≤ k) := by
  by_cases h : k < rk x 64
  · obtain ⟨p, hp, h1, h2⟩ := sel_in x 64 k h
    exact .inl ⟨p, hp, sel_of x k 64 p hp h1 (by omega), h1, h2⟩
  · exact .inr ⟨sel_outN x k 64 (.inr (by omega)), by omega⟩

theorem wd_low (U q p : Nat) (hp : p < 64) : wd U q / 2 ^ p % 2 = 1 ↔ U / 2 ^ (64 * q + p) % 2 = 1 := by
  rw [bit_one, bit_one, wd_bit]; simp [hp]

/-- The one is found in the word q. -/
theorem sel_found (U q p k n : Nat) (hp : p < 64) (h1 : wd U q / 2 ^ p % 2 = 1) (h2 : rk (wd U q) p + rk U (64 * q) = k) (hn : k < rk U n) : sel U k n = ((64 * q + p : Nat) : Int) := by
  have e : rk U (64 * q + p) = k := by rw [rk_low U q p (by omega)]; omega
  refine sel_of U k n _ ?_ ((wd_low U q p hp).1 h1) (by omega)
  rcases Nat.lt_or_ge (64 * q + p) n with h | h
  · exact h
  · have := rk_mono U h; omega

/-- The number that is turned in all its K words. -/
def flipV (V K : Nat) : Nat := 2 ^ (64 * K) - (V + 1)
theorem flip_lt (V K : Nat) : flipV V K < 2 ^ (64 * K) := by
  unfold flipV; have := Nat.two_pow_pos (64 * K); omega
theorem flip_bit {V K : Nat} (h : V < 2 ^ (64 * K)) (p : Nat) : (flipV V K).testBit p = (decide (p < 64 * K) && !V.testBit p) := by
  unfold flipV; exact Nat.testBit_two_pow_sub_succ h p
theorem flip_wd {V K i : Nat} (h : V < 2 ^ (64 * K)) (hi : i < K) : wd V i ^^^ 18446744073709551615 = wd (flipV V K) i := by
  apply Nat.eq_of_testBit_eq
  intro j
  rw [Nat.testBit_xor, wd_bit, wd_bit, flip_bit h, show (18446744073709551615 : Nat) = 2 ^ 64 - 1 by decide, Nat.testBit_two_pow_sub_one]
  by_cases hj : j < 64
  · simp [hj, show 64 * i + j < 64 * K by omega]
  · simp [hj]
theorem flip_rk {V K : Nat} (h : V < 2 ^ (64 * K)) (j : Nat) (hj : j ≤ 64 * K) : rk (flipV V K) j = j - rk V j := by
  induction j with
  | zero => simp [rk]
  | succ j ih =>
    have hl := rk_le V j
    rw [rk_step, rk_step V, ih (by omega), flip_bit h]
    by_cases hb : V.testBit j = true
    · simp [hb]
    · simp [hb, show j < 64 * K by omega]; omega

/-- The places of the ones, by their numbers. -/
def pl (U n k : Nat) : Nat := (sel U k n).toNat
theorem pl_step (U n i : Nat) (hi : i < n) (hb : U.testBit i = true) : pl U n (rk U i) = i := by
  unfold pl; rw [sel_of U _ n i hi (bit_one.2 hb) rfl]; rfl
theorem pl_at (U n k : Nat) (h : k < rk U n) : ((pl U n k : Nat) : Int) = sel U k n := by
  obtain ⟨p, hp, h1, h2⟩ := sel_in U n k h
  have := sel_of U k n p hp h1 (by omega)
  unfold pl; rw [this]; rfl
theorem pl_lt (U n k : Nat) (h : k < rk U n) : pl U n k < n := by
  obtain ⟨p, hp, h1, h2⟩ := sel_in U n k h
  have := sel_of U k n p hp h1 (by omega)
  unfold pl; rw [this]; exact hp

/-- How many there are ahead of the mark m. -/
def ah (U n m : Nat) : Nat := rk U (min (512 * m) n)
theorem ah_mono (U n : Nat) {a b : Nat} (h : a ≤ b) : ah U n a ≤ ah U n b := rk_mono U (by omega)
theorem ah_last (U n : Nat) : ah U n (nm n) = rk U n := mk_last U n
theorem ah_first (U n : Nat) : ah U n 0 = 0 := by simp [ah, rk]
theorem ah_in (U n s : Nat) (h : s < nm n) : ah U n s = rk U (64 * (8 * s)) := by
  have := mk_below U n s h
  rw [show 64 * (8 * s) = 512 * s by omega]; exact this
theorem ah_le (U n m : Nat) : ah U n m ≤ n := Nat.le_trans (rk_le _ _) (by omega)

end Go.Proofs.YtbfolfacppbalaaDoor

namespace Go.Proofs.YtbfolfacppbalaaDoor
open Go.RowKit

/-- The row of the first k numbers, of d bits each. -/
def packV (d : Nat) (f : Nat → Nat) : Nat → Nat
  | 0 => 0
  | k + 1 => cat (packV d f k) (d * k) (f k)

theorem packV_lt (d : Nat) (f : Nat → Nat) (k : Nat) (h : ∀ j, j < k → f j < 2 ^ d) : packV d f k < 2 ^ (d * k) := by
  induction k with
  | zero => simp [packV]
  | succ k ih =>
    rw [packV, Nat.mul_succ]
    exact cat_lt (ih fun j hj => h j (by omega)) (h k (by omega))

theorem packV_congr (d : Nat) {f g : Nat → Nat} (k : Nat) (h : ∀ j, j < k → f j = g j) : packV d f k = packV d g k := by
  induction k with
  | zero => rfl
  | succ k ih => rw [packV, packV, ih fun j hj => h j (by omega), h k (by omega)]

theorem packV_cut (d : Nat) (f : Nat → Nat) (k i : Nat) (h : ∀ j, j < k → f j < 2 ^ d) (hi : i < k) : packV d f k / 2 ^ (d * i) % 2 ^ d = f i := by
  induction k with
  | zero => omega
  | succ k ih =>
    rw [packV, cat]
    by_cases hk : i = k
    · subst hk
      rw [Nat.mul_add_div (Nat.two_pow_pos _), Nat.div_eq_of_lt (packV_lt d f i fun j hj => h j (by omega)), Nat.add_zero, Nat.mod_eq_of_lt (h i (by omega))]
    · have hik : i < k := by omega
      obtain ⟨t, rfl⟩ : ∃ t, k = i + 1 + t := ⟨k - (i + 1), by omega⟩
      have e : 2 ^ (d * (i + 1 + t)) * f (i + 1 + t) = 2 ^ (d * i) * (2 ^ d * (2 ^ (d * t) * f (i + 1 + t))) := by
        rw [← Nat.mul_assoc, ← Nat.mul_assoc, ← Nat.pow_add, ← Nat.pow_add]
        congr 2
        rw [Nat.mul_add, Nat.mul_add, Nat.mul_one]
      rw [e, Nat.mul_add_div (Nat.two_pow_pos _), Nat.mul_add_mod]
      exact ih (fun j hj => h j (by omega)) hik

theorem packV_of (d W k : Nat) : packV d (fun i => W / 2 ^ (d * i) % 2 ^ d) k = W % 2 ^ (d * k) := by
  induction k with
  | zero => simp [packV, Nat.mod_one]
  | succ k ih => rw [packV, ih, cat, Nat.mul_succ, Nat.pow_add, Nat.mod_mul, Nat.add_comm]

/-- The least width of the first k numbers. -/
def wid (f : Nat → Nat) : Nat → Nat
  | 0 => 0
  | k + 1 => max (wid f k) (Lib.bitLen (f k))

theorem wid_le (f : Nat → Nat) (k d : Nat) : wid f k ≤ d ↔ ∀ j, j < k → Lib.bitLen (f j) ≤ d := by
  induction k with
  | zero => simp [wid]
  | succ k ih =>
    rw [wid, Nat.max_le, ih]
    constructor
    · rintro ⟨h1, h2⟩ j hj
      rcases (show j < k ∨ j = k by omega) with h | rfl
      · exact h1 j h
      · exact h2
    · intro h
      exact ⟨fun j hj => h j (by omega), h k (by omega)⟩

theorem bitLen_le64 (x : Nat) (h : x < 18446744073709551616) : Lib.bitLen x ≤ 64 := Lib.bitLen_le x 64 (by decide) h
theorem wid_le64 (f : Nat → Nat) (k : Nat) (h : ∀ j, j < k → f j < 18446744073709551616) : wid f k ≤ 64 := (wid_le f k 64).2 fun j hj => bitLen_le64 _ (h j hj)
theorem fits (f : Nat → Nat) (k d : Nat) (hf : ∀ j, j < k → f j < 18446744073709551616) (h : wid f k ≤ d) : ∀ j, j < k → f j < 2 ^ d :=
  fun j hj => width_lt _ _ (hf j hj) ((wid_le f k d).1 h j hj)

/-- The i-th number of n numbers of d bits. -/
def atV (V d n : Nat) (i : Int) : Nat := if 0 ≤ i ∧ i < n then V / 2 ^ (d * i.toNat) % 2 ^ d else 0
theorem atV_pack (d : Nat) (f : Nat → Nat) (k i : Nat) (h : ∀ j, j < k → f j < 2 ^ d) (hi : i < k) : atV (packV d f k) d k i = f i := by
  unfold atV
  rw [if_pos ⟨by omega, by omega⟩, Int.toNat_natCast, packV_cut d f k i h hi]
theorem atV_out (V d n : Nat) (i : Int) (h : ¬ (0 ≤ i ∧ i < n)) : atV V d n i = 0 := if_neg h
theorem atV_lt (V d n : Nat) (i : Int) (hd : d ≤ 64) : atV V d n i < 18446744073709551616 := by
  unfold atV
  split
  · exact mod_lt64 _ _ hd
  · decide

end Go.Proofs.YtbfolfacppbalaaDoor
