/-
  intern: rows of a table that grow; all keys are set into new slots; a key comes.
-/
import Derived.Test.YtiiflegfbieblaaInC
import Derived.Test.YtiiflegfbieblaaInD
import Derived.Maps.AppendAt
namespace Go.Proofs.Ytiiflegfbieblaa
open Go.RowKit

theorem set3_0 {w : World} {b : Nat} {u v y x : Value} {t : TypeId} (h : w.heap[b]? = some (.cells #[u, v, y] t (0, 0))) : (w.setCell ⟨b, 0, none⟩ x).heap[b]? = some (.cells #[x, v, y] t (0, 0)) := by
  simpa using heap_setCell_same w b 0 #[u, v, y] t x h
theorem row_cells {w : World} {base n : Nat} {e : TypeId} {v : Value} {xs : List Value} (h : w.ownsRow base e 1 v n xs) {g : Nat} (hg : v.ownBlock = some g) : ∃ cs, w.heap[g]? = some (.cells cs e (0, 0)) := by
  rcases h.2 with ⟨rfl, _⟩ | ⟨g', cap, cur, rfl, _, hh, _⟩
  · simp [Value.ownBlock] at hg
  · simp [Value.ownBlock] at hg; subst hg; exact ⟨_, hh⟩
theorem rows_ne {w : World} {base base' n n' : Nat} {e e' : TypeId} {v v' : Value} {xs xs' : List Value} (h : w.ownsRow base e 1 v n xs) (h' : w.ownsRow base' e' 1 v' n' xs') (he : e ≠ e') {g : Nat} (hg : v.ownBlock = some g) : v'.ownBlock ≠ some g := by
  obtain ⟨cs, hc⟩ := row_cells h hg
  exact wown_ne hc h' he
theorem own_same {w w' : World} {base n : Nat} {e : TypeId} {v : Value} {xs : List Value} (h : w.ownsRow base e 1 v n xs) (hb : ∀ g, v.ownBlock = some g → w'.heap[g]? = w.heap[g]?) : w'.ownsRow base e 1 v n xs :=
  ⟨h.1, h.2.imp id fun ⟨g, cap, cur, hv, h1, hg, rest⟩ => ⟨g, cap, cur, hv, h1, (hb g (by rw [hv]; rfl)).trans hg, rest⟩⟩
variable {w wa w2 : World} {D : Nat → Prop} {b m : Nat} {vk vh vd v2 : Value} {ts : List (List UInt8)} {hs : List Nat} {f : Nat → Nat}

/-- A text is appended to the row of texts. -/
theorem Tb.appK (h : Tb w D b vk vh vd ts hs m f) (hma : More w wa) {s : List UInt8} (hown : w2.ownsRow 0 9 1 v2 (ts.length + 1) (strs ts ++ [.string (bs s)])) (hg : wa.grownBy w2 vk.ownBlock) (hat : v2.ownBlock = vk.ownBlock ∨ v2.ownBlock = some wa.heap.size) :
    Tb (w2.setCell ⟨b, 0, none⟩ v2) (fun j => D j ∨ (w.heap.size ≤ j ∧ j < w2.heap.size)) b v2 vh vd (ts ++ [s]) hs m f ∧ Off D w (w2.setCell ⟨b, 0, none⟩ v2) ∧ w2.heap[b]? = some (.cells #[vk, vh, vd] 86 (0, 0)) := by
  have hs1 := hma.size
  have hs2 := hg.size
  have hlb := h.wi b h.inB
  have kept : ∀ k, k < w.heap.size → vk.ownBlock ≠ some k → w2.heap[k]? = w.heap[k]? := fun k hk hn => (hg.block k (by omega) (fun e => hn e.symm)).trans (hma.block k hk)
  have hb2 : w2.heap[b]? = some (.cells #[vk, vh, vd] 86 (0, 0)) := (kept b hlb (wown_ne h.box h.keys (by decide))).trans h.box
  have hh2 : w2.ownsRow 0 80 1 vh hs.length (hvs hs) := own_same h.hashes fun g hg' => kept g (h.wi g (h.inH g hg')) (rows_ne h.hashes h.keys (by decide) hg')
  have hd2 : w2.ownsRow 0 3 1 vd m (nums f m) := own_same h.held fun g hg' => kept g (h.wi g (h.inD g hg')) (rows_ne h.held h.keys (by decide) hg')
  have hv2 : v2.ownBlock ≠ some b := wown_ne hb2 hown (by decide)
  refine ⟨⟨set3_0 hb2, ?_, ownsRow_setCell_other hh2 (wown_ne hb2 hh2 (by decide)) _, ownsRow_setCell_other hd2 (wown_ne hb2 hd2 (by decide)) _, .inl h.inB, fun j hj => ?_, fun j hj => .inl (h.inH j hj), fun j hj => .inl (h.inD j hj), fun k hk => ?_⟩, ⟨hg.os.trans hma.os, hg.tape.trans hma.tape, hg.output.trans hma.output, by simp; omega, fun k hk hn => ?_⟩, hb2⟩
  · rw [strs_snoc, List.length_append, List.length_singleton]
    exact ownsRow_setCell_other hown hv2 _
  · have hl := (hown.lt j hj).2
    rcases hat with e | e
    · exact .inl (h.inK j (by rw [← e]; exact hj))
    · rw [e] at hj
      have : wa.heap.size = j := by simpa using hj
      exact .inr ⟨by omega, hl⟩
  · rw [World.size_setCell]
    rcases hk with hk | hk
    · have := h.wi k hk; omega
    · exact hk.2
  · rw [heap_setCell_other w2 ⟨b, 0, none⟩ k v2 (fun e => hn (by have e : k = b := e; rw [e]; exact h.inB))]
    exact kept k hk (fun e => hn (h.inK k e))
/-- A hash is appended to the row of hashes. -/
theorem Tb.appH (h : Tb w D b vk vh vd ts hs m f) (hma : More w wa) {x : Nat} (hown : w2.ownsRow 0 80 1 v2 (hs.length + 1) (hvs hs ++ [.int .u64 x])) (hg : wa.grownBy w2 vh.ownBlock) (hat : v2.ownBlock = vh.ownBlock ∨ v2.ownBlock = some wa.heap.size) :
    Tb (w2.setCell ⟨b, 1, none⟩ v2) (fun j => D j ∨ (w.heap.size ≤ j ∧ j < w2.heap.size)) b vk v2 vd ts (hs ++ [x]) m f ∧ Off D w (w2.setCell ⟨b, 1, none⟩ v2) ∧ w2.heap[b]? = some (.cells #[vk, vh, vd] 86 (0, 0)) := by
  have hs1 := hma.size
  have hs2 := hg.size
  have hlb := h.wi b h.inB
  have kept : ∀ k, k < w.heap.size → vh.ownBlock ≠ some k → w2.heap[k]? = w.heap[k]? := fun k hk hn => (hg.block k (by omega) (fun e => hn e.symm)).trans (hma.block k hk)
  have hb2 : w2.heap[b]? = some (.cells #[vk, vh, vd] 86 (0, 0)) := (kept b hlb (wown_ne h.box h.hashes (by decide))).trans h.box
  have hk2 : w2.ownsRow 0 9 1 vk ts.length (strs ts) := own_same h.keys fun g hg' => kept g (h.wi g (h.inK g hg')) (rows_ne h.keys h.hashes (by decide) hg')
  have hd2 : w2.ownsRow 0 3 1 vd m (nums f m) := own_same h.held fun g hg' => kept g (h.wi g (h.inD g hg')) (rows_ne h.held h.hashes (by decide) hg')
  have hv2 : v2.ownBlock ≠ some b := wown_ne hb2 hown (by decide)
  refine ⟨⟨wset3_1 hb2, ownsRow_setCell_other hk2 (wown_ne hb2 hk2 (by decide)) _, ?_, ownsRow_setCell_other hd2 (wown_ne hb2 hd2 (by decide)) _, .inl h.inB, fun j hj => .inl (h.inK j hj), fun j hj => ?_, fun j hj => .inl (h.inD j hj), fun k hk => ?_⟩, ⟨hg.os.trans hma.os, hg.tape.trans hma.tape, hg.output.trans hma.output, by simp; omega, fun k hk hn => ?_⟩, hb2⟩
  · rw [hvs_snoc, List.length_append, List.length_singleton]
    exact ownsRow_setCell_other hown hv2 _
  · have hl := (hown.lt j hj).2
    rcases hat with e | e
    · exact .inl (h.inH j (by rw [← e]; exact hj))
    · rw [e] at hj
      have : wa.heap.size = j := by simpa using hj
      exact .inr ⟨by omega, hl⟩
  · rw [World.size_setCell]
    rcases hk with hk | hk
    · have := h.wi k hk; omega
    · exact hk.2
  · rw [heap_setCell_other w2 ⟨b, 1, none⟩ k v2 (fun e => hn (by have e : k = b := e; rw [e]; exact h.inB))]
    exact kept k hk (fun e => hn (h.inH k e))
theorem none_nums (m : Nat) : (madeCells (Value.int .i64 0).cells (m * 1)).toList = nums (fun _ => 0) m := by
  apply List.ext_getElem?
  intro i
  by_cases hi : i < m
  · rw [nums_get _ hi]
    simp [madeCells, hi, Value.cells, Nat.mod_one]
  · rw [List.getElem?_eq_none (by simp [madeCells]; omega), List.getElem?_eq_none (by simp [nums_len]; omega)]
/-- New slots, all of them empty. -/
theorem Tb.made (h : Tb w D b vk vh vd ts hs m f) (m' : Nat) (hm' : m' ≤ 9223372036854775807) {M : Array Value} (hM : M.toList = nums (fun _ => 0) m') :
    Tb ((w.alloc (.cells M 3)).setCell ⟨b, 2, none⟩ (.slice (some ⟨w.heap.size, 0, none⟩) m' m')) (fun j => D j ∨ j = w.heap.size) b vk vh (.slice (some ⟨w.heap.size, 0, none⟩) m' m') ts hs m' (fun _ => 0) ∧ Off D w ((w.alloc (.cells M 3)).setCell ⟨b, 2, none⟩ (.slice (some ⟨w.heap.size, 0, none⟩) m' m')) := by
  have hlb := h.wi b h.inB
  have hMs : M.size = m' := by rw [← Array.length_toList, hM, nums_len]
  have hma := more_alloc w (.cells M 3)
  have h1 := h.more hma
  have hb2 := h1.box
  have hrow : (w.alloc (.cells M 3)).ownsRow 0 3 1 (.slice (some ⟨w.heap.size, 0, none⟩) m' m') m' (nums (fun _ => 0) m') := by
    rw [← hM]
    exact World.ownsRow_lit w M m' (Nat.zero_le _) (by unfold maxLen; omega) (by omega)
  refine ⟨⟨set3_2 hb2, ownsRow_setCell_other h1.keys (wown_ne hb2 h1.keys (by decide)) _, ownsRow_setCell_other h1.hashes (wown_ne hb2 h1.hashes (by decide)) _, ownsRow_setCell_other hrow (wown_ne hb2 hrow (by decide)) _, .inl h.inB, fun j hj => .inl (h.inK j hj), fun j hj => .inl (h.inH j hj), fun j hj => .inr ?_, fun k hk => ?_⟩, (Off.of_more hma).trans (Off.setCell (D := D) (p := ⟨b, 2, none⟩) _ h.inB _) (fun _ h => .inl h)⟩
  · simpa [Value.ownBlock] using hj.symm
  · rw [World.size_setCell, World.size_alloc]
    rcases hk with hk | hk
    · have := h.wi k hk; omega
    · omega

set_option maxRecDepth 1000000 in
set_option maxHeartbeats 4000000 in
theorem in_spread (w : World) (D : Nat → Prop) (b m m' k : Nat) (vk vh vd : Value) (ts : List (List UInt8)) (hs : List Nat) (f : Nat → Nat) (hT : Tb w D b vk vh vd ts hs m f) (hl : hs.length = ts.length) (hk : k ≤ 40) (hm : m' = 2 ^ k) (hlt : ts.length < m') :
    Calls Try.prog 64 #[.pointer (some ⟨b, 0, none⟩), .int .i64 m'] w fun e w' => (∃ v, e = .returned v) ∧ ∃ vd' f' D', Tb w' D' b vk vh vd' ts hs m' f' ∧ Slt m' (fun i => hs.getD i 0) f' ts.length ∧ Off D w w' ∧ ∀ j, D' j → D j ∨ w.heap.size ≤ j := by
  have hm0 : m' ≤ 1099511627776 := by rw [hm]; exact Nat.pow_le_pow_right (n := 2) (by decide) hk
  have hlb : b < w.heap.size := hT.wi b hT.inB
  obtain ⟨i0, hi, hz0, hz1, hz2⟩ := info_parts Try.infoInt
  obtain ⟨M, hM⟩ : ∃ M, M = madeCells (Value.int .i64 0).cells (((m' : Nat) : Int).toNat * i0.size) := ⟨_, rfl⟩
  have hMl : M.toList = nums (fun _ => 0) m' := by rw [hM, hz1, Int.toNat_natCast]; exact none_nums m'
  have hmk : ∀ W : World, (Instr.makeSlice 30 (.int .i64 (m' : Int)) (.int .i64 (m' : Int))).run Try.prog W = .ok (.slice (some ⟨W.heap.size, 0, none⟩) m' m') (W.alloc (.cells M 3)) := fun W => by
    have h := run_make (P := Try.prog) W 30 3 i0 (.int .i64 0) Try.underlying30 hi hz0 .i64 .i64 (m' : Int) (m' : Int) (by omega) (by omega) (by rw [hz2]; omega) (by omega)
    rw [← hM] at h
    simpa using h
  obtain ⟨hT2, hO2⟩ := hT.made m' (by omega) hMl
  have cc := (hT.more (more_alloc w (.cells M 3))).cells
  obtain ⟨x1, x2, x3, x4, x5, x6⟩ := cc
  have HM := Hid.mk hm
  have HT := Hid.mk hT
  obtain ⟨aK, cK, rfl⟩ := wshape_of hT.keys
  clear hM hMl hT hm x1 x2 x4 x5
  obtain ⟨wB, hwB⟩ : ∃ wB, (w.alloc (.cells M 3)).setCell ⟨b, 2, none⟩ (.slice (some ⟨w.heap.size, 0, none⟩) m' m') = wB := ⟨_, rfl⟩
  rw [hwB] at hT2 hO2
  have y1 := hT2.cells.1
  have H2 := Hid.mk (And.intro hT2 hO2)
  clear hT2 hO2
  go_enter Try.func64, Try.ntmps64
  go_wp2
  clear x3 x6 hwB hmk y1
  go_loopw [15] (fun c wr => ∃ (r : Nat) (f' : Nat → Nat), r ≤ ts.length ∧ c = .int .i64 r ∧ Tb wr (fun j => D j ∨ j = w.heap.size) b (.slice aK ts.length cK) vh (.slice (some ⟨w.heap.size, 0, none⟩) m' m') ts hs m' f' ∧ Slt m' (fun i => hs.getD i 0) f' r ∧ Off D w wr)
    (fun c _ => ts.length - (intOf c).toNat)
  case atStart => exact ⟨0, fun _ => 0, Nat.zero_le _, rfl, H2.out.1, Slt.zero _ _, H2.out.2⟩
  case round =>
    obtain ⟨r, f', hr, rfl, hTr, hSr, hOr⟩ := hrel
    by_cases hlt2 : r < ts.length
    · obtain ⟨j, hj, hj0, hjn⟩ := hSr.free (by omega) (hs.getD r 0)
      have htk := in_take 16 (Nat.le_refl _) wr (fun j => D j ∨ j = w.heap.size) b m' r k j _ _ _ ts hs f' hTr (by omega) (by omega) (fun p => by have := hSr.le p; omega) hk HM.out hj hj0 hjn
      have HR := Hid.mk (And.intro hOr (hSr.put hj hj0 hjn))
      clear hTr hSr hOr hj0 hjn
      go_wp2_with (go_at_call 68; refine (callsIn_wide.1 htk).mono ?_; rintro e w' ⟨⟨v, rfl⟩, hT3, hO3⟩; have H3 := Hid.mk (And.intro hT3 hO3); clear hT3 hO3 htk)
      go_roundw
      case rel => exact ⟨r + 1, _, by omega, by go_num, H3.out.1, HR.out.2, HR.out.1.trans H3.out.2 (fun j hj => hj.imp id fun e => by omega)⟩
      case measure => simp [intOf]; omega
    · obtain rfl : r = ts.length := by omega
      have HR := Hid.mk (And.intro hTr (And.intro hSr hOr))
      clear hTr hSr hOr
      go_wp2
      go_end0
      exact ⟨⟨_, rfl⟩, _, _, _, HR.out.1, HR.out.2.1, HR.out.2.2, fun j hj => hj.imp id fun e => by omega⟩

/-- The fall of a table's slots into a greater number of them, or not. -/
theorem slN_next {n : Nat} (h : slN n < 2 * (n + 1)) : slN (n + 1) = 2 * slN n := by
  have e : slN (n + 1) = if slN n < 2 * (n + 1) then 2 * slN n else slN n := rfl
  rw [e, if_pos h]
theorem slN_stays {n : Nat} (h : ¬ slN n < 2 * (n + 1)) : slN (n + 1) = slN n := by
  have e : slN (n + 1) = if slN n < 2 * (n + 1) then 2 * slN n else slN n := rfl
  rw [e, if_neg h]
theorem hmap_snoc (ts : List (List UInt8)) (s : List UInt8) : (ts ++ [s]).map hashN = ts.map hashN ++ [hashN s] := by simp
theorem hmap_hOf (ts : List (List UInt8)) {i : Nat} (h : i < ts.length) : hOf ts i = (ts.map hashN).getD i 0 := (hmap_get ts h).symm
theorem slN_k (n : Nat) (hn : n ≤ 1000000) : ∃ k, k ≤ 40 ∧ slN n = 2 ^ k := by
  obtain ⟨k, hk⟩ := slN_pow n
  refine ⟨k + 3, ?_, hk⟩
  have h := slN_le n
  rw [hk] at h
  refine Nat.le_of_lt_succ ((Nat.pow_lt_pow_iff_right (a := 2) (by decide)).1 ?_)
  have : (2 : Nat) ^ (40 + 1) = 2199023255552 := by decide
  rw [this]; omega

set_option maxRecDepth 1000000 in
set_option maxHeartbeats 4000000 in
theorem in_add (w : World) (D : Nat → Prop) (b : Nat) (vk vh vd : Value) (ts : List (List UInt8)) (s : List UInt8) (f : Nat → Nat) (hT : Tb w D b vk vh vd ts (ts.map hashN) (slN ts.length) f) (hS : Slt (slN ts.length) (hOf ts) f ts.length) (hN : ts.length ≤ 100000) :
    Calls Try.prog 54 #[.pointer (some ⟨b, 0, none⟩), .string (bs s), .int .u64 (hashN s)] w fun e w' => e = .returned (.int .i64 ts.length) ∧ ∃ vk' vh' vd' f' D', Tb w' D' b vk' vh' vd' (ts ++ [s]) ((ts ++ [s]).map hashN) (slN (ts.length + 1)) f' ∧ Slt (slN (ts.length + 1)) (hOf (ts ++ [s])) f' (ts.length + 1) ∧ Off D w w' ∧ ∀ j, D' j → D j ∨ w.heap.size ≤ j := by
  obtain ⟨i0, hi, hz0, hz1, hz2⟩ := info_parts Try.infoStr
  obtain ⟨i1, hj, hy0, hy1, hy2⟩ := info_parts Try.infoU64
  obtain ⟨n, hn⟩ : ∃ n, ts.length = n := ⟨_, rfl⟩
  obtain ⟨m, hm⟩ : ∃ m, slN n = m := ⟨_, rfl⟩
  have hme := slN_even n
  have hmg := slN_ge n
  have hml := slN_le n
  have HS := Hid.mk (And.intro (@slN_next n) (And.intro (@slN_stays n) hS))
  rw [hn, hm] at hT
  rw [hm] at hme hmg hml
  have hlb : b < w.heap.size := hT.wi b hT.inB
  obtain ⟨aK, cK, rfl⟩ := wshape_of hT.keys
  obtain ⟨aH, cH, rfl⟩ := wshape_of hT.hashes
  obtain ⟨k1, k2, k3, k4, k5, k6⟩ := hT.cells
  have HT := Hid.mk hT
  have HN := Hid.mk (And.intro hn hm)
  rw [hn] at hN ⊢
  rw [hn] at k1
  have kA : ∀ o, (w.alloc o).cell? ⟨b, 0, none⟩ = some (.slice aK n cK) := fun o => ((more_alloc w o).cell hlb).trans k1
  clear hT hS hn hm
  go_enter Try.func54, Try.ntmps54
  go_wp2_with (at_builtin; refine wpList_append_own_at _ rfl (.tmp 17) (.tmp 19) 22 rfl 0 9 i0 (.string ⟨#[]⟩) 1 16 Try.underlying22 hi hz0 hz1 hz2 rfl (by decide) _ _ _ rfl (HN.out.1 ▸ HT.out.keys.alloc _) ⟨w.heap.size, 0, none⟩ 1 1 [.string (bs s)] rfl rfl (one_cell _ _ _) (one_str _) ?c3 ?c4 ?c5 ?_)
  case c3 => unfold maxLen; omega
  case c4 => omega
  case c5 => omega
  intro v2 w2 hown2 hg2 _ hat2
  obtain ⟨a2, c2, rfl⟩ := wshape_of hown2
  rw [← HN.out.1] at hg2
  obtain ⟨hT3, hO3, hb3⟩ := HT.out.appK (more_alloc w _) (by rw [HN.out.1]; exact hown2) hg2 (by rw [HN.out.1]; simpa using hat2)
  obtain ⟨q1, q2, q3, q4, q5, q6⟩ := wcells3 hb3
  obtain ⟨w3, hw3⟩ : ∃ w3, w2.setCell ⟨b, 0, none⟩ (.slice a2 (n + 1) c2) = w3 := ⟨_, rfl⟩
  rw [hw3] at hT3 hO3
  have hmn : (ts.map hashN).length = n := by rw [List.length_map]; exact HN.out.1
  have HMN := Hid.mk hmn
  clear hmn
  have hlb3 : b < w3.heap.size := hT3.wi b hT3.inB
  obtain ⟨k1, k2, k3, k4, k5, k6⟩ := hT3.cells
  rw [List.length_map, HN.out.1] at k2
  have H3 := Hid.mk (And.intro hT3 hO3)
  have hs2 : w.heap.size ≤ w3.heap.size := hO3.size
  clear hT3 hO3 hown2 hg2 hat2 kA hb3 q2 q3 q5 q6 k1 k3
  go_wp2_with (at_builtin; refine wpList_append_own_at _ rfl (.tmp 27) (.tmp 29) 82 rfl 0 80 i1 (.int .u64 0) 1 8 Try.underlying82 hj hy0 hy1 hy2 rfl (by decide) _ _ _ rfl (HMN.out ▸ H3.out.1.hashes.alloc _) ⟨w3.heap.size, 0, none⟩ 1 1 [.int .u64 (hashN s)] rfl rfl (one_cell _ _ _) (by intro u hu; simp at hu; subst hu; rfl) ?d3 ?d4 ?d5 ?_)
  case d3 => unfold maxLen; omega
  case d4 => omega
  case d5 => omega
  intro v4 w4 hown4 hg4 _ hat4
  obtain ⟨a4, c4, rfl⟩ := wshape_of hown4
  rw [← HMN.out] at hg4
  obtain ⟨hT5, hO5, hb5⟩ := H3.out.1.appH (more_alloc w3 _) (by rw [HMN.out]; exact hown4) hg4 (by rw [HMN.out]; simpa using hat4)
  obtain ⟨q1, q2, q3, q4, q5, q6⟩ := wcells3 hb5
  obtain ⟨w5, hw5⟩ : ∃ w5, w4.setCell ⟨b, 1, none⟩ (.slice a4 (n + 1) c4) = w5 := ⟨_, rfl⟩
  rw [hw5] at hT5 hO5
  have hO := H3.out.2.trans hO5 (fun j hj => hj.imp id fun h => h.1)
  have hD5 : ∀ j, (fun k => (D k ∨ (w.heap.size ≤ k ∧ k < w2.heap.size)) ∨ (w3.heap.size ≤ k ∧ k < w4.heap.size)) j → D j ∨ w.heap.size ≤ j := fun j hj => by
    rcases hj with (hj | hj) | hj
    · exact .inl hj
    · exact .inr hj.1
    · exact .inr (by omega)
  obtain ⟨k1, _, k3, _⟩ := hT5.cells
  have k1 : w5.cell? ⟨b, 0, none⟩ = some (.slice a2 (n + 1) c2) := k1
  obtain ⟨aD, cD, rfl⟩ := wshape_of hT5.held
  have H5 := Hid.mk (And.intro hT5 (And.intro hO hD5))
  clear hT5 hO5 hown4 hg4 hat4 hb5 q1 q3 q4 q6 hO hD5 k2 k4 k5 k6
  generalize (fun k => (D k ∨ (w.heap.size ≤ k ∧ k < w2.heap.size)) ∨ (w3.heap.size ≤ k ∧ k < w4.heap.size)) = D5 at H5
  go_wp2
  have hlen : (ts ++ [s]).length = n + 1 := by rw [List.length_append, List.length_singleton, HN.out.1]
  have HL := Hid.mk hlen
  have hH : ∀ i, i < n + 1 → hOf (ts ++ [s]) i = ((ts ++ [s]).map hashN).getD i 0 := fun i hi => hmap_hOf (ts ++ [s]) (by omega)
  obtain ⟨kk, hkk, hkm⟩ := slN_k (n + 1) (by omega)
  have HH := Hid.mk (And.intro hH (And.intro hkk hkm))
  clear hlen hH hkk hkm
  by_cases hlt : m < 2 * (n + 1)
  · obtain ⟨m2, hm2⟩ : ∃ m2, 2 * m = m2 := ⟨_, rfl⟩
    have hmx : max 8 (2 * (m : Int)) = (m2 : Int) := by omega
    have hM := Hid.mk (show slN (n + 1) = m2 by rw [HS.out.1 (by rw [HN.out.2]; exact hlt), HN.out.2, hm2])
    have hml2 : n + 1 < m2 := by omega
    clear hm2
    go_quiet (fail)
    have hsp := in_spread (w5.drewN nq) D5 b m m2 kk _ _ _ (ts ++ [s]) (ts.map hashN ++ [hashN s]) f (H5.out.1.more (More.drewN w5 nq)) (by rw [List.length_append, List.length_map, List.length_append]; rfl) HH.out.2.1 (by rw [← hM.out]; exact HH.out.2.2) (by rw [HL.out]; exact hml2)
    go_wp2_with (go_at_call 64; refine hsp.mono ?_; rintro e w6 ⟨⟨v, rfl⟩, vd', f', D', hT6, hS6, hO6, hD6⟩; have H6 := Hid.mk (And.intro hT6 (And.intro hS6 (And.intro hO6 hD6))); clear hT6 hS6 hO6 hD6 hsp)
    go_ret
    have hX := H6.out.1
    have hY := H6.out.2.1
    rw [HL.out] at hY
    rw [← hM.out] at hX hY
    have hY := hY.ext (H' := hOf (ts ++ [s])) fun i hi => by rw [HH.out.1 i hi, hmap_snoc]
    rw [← hmap_snoc] at hX
    exact ⟨rfl, _, _, _, f', D', hX, hY, H5.out.2.1.trans H6.out.2.2.1.drawn H5.out.2.2, fun j hj => (H6.out.2.2.2 j hj).elim (H5.out.2.2 j) fun h => .inr (Nat.le_trans (Nat.le_trans H5.out.2.1.size (Nat.le_refl _)) h)⟩
  · have hM := Hid.mk (show slN (n + 1) = m by rw [HS.out.2.1 (by rw [HN.out.2]; exact hlt), HN.out.2])
    have hS0 : Slt m (fun i => (ts.map hashN ++ [hashN s]).getD i 0) f n := by
      have h := HS.out.2.2
      rw [HN.out.1, HN.out.2] at h
      exact h.ext fun i hi => by
        have h1 := HH.out.1 i (by omega)
        rw [hmap_snoc] at h1
        rw [← h1]
        exact hOf_snoc ts s (by rw [HN.out.1]; exact hi)
    obtain ⟨j, hj1, hj0, hjn⟩ := hS0.free (by omega) ((ts.map hashN ++ [hashN s]).getD n 0)
    have HP := Hid.mk (hS0.put hj1 hj0 hjn)
    have hle : ∀ p, f p < 1099511627776 := fun p => by have := hS0.le p; omega
    go_quiet (fail)
    have htk := in_take 16 (Nat.le_refl _) (w5.drewN nq) D5 b m n kk j _ _ _ (ts ++ [s]) (ts.map hashN ++ [hashN s]) f (H5.out.1.more (More.drewN w5 nq)) (by rw [List.length_append, HMN.out, List.length_singleton]; omega) (by omega) hle HH.out.2.1 (by rw [← hM.out]; exact HH.out.2.2) hj1 hj0 hjn
    clear hS0 hj0 hjn hle
    go_wp2_with (go_at_call 68; refine (callsIn_wide.1 htk).mono ?_; rintro e w6 ⟨⟨v, rfl⟩, hT6, hO6⟩; have H6 := Hid.mk (And.intro hT6 hO6); clear hT6 hO6 htk)
    go_ret
    have hX := H6.out.1
    have hY := HP.out.ext (H' := hOf (ts ++ [s])) fun i hi => by rw [HH.out.1 i hi, hmap_snoc]
    rw [← hM.out] at hX hY
    rw [← hmap_snoc] at hX hY
    exact ⟨rfl, _, _, _, _, D5, hX, hY, H5.out.2.1.trans H6.out.2.drawn H5.out.2.2, H5.out.2.2⟩
end Go.Proofs.Ytiiflegfbieblaa
