/-
  What is put is got as it was, plainly.
  prefix: New, and what lies in memory of a sequence; Len, Total, Sum, At, Where, Size; of nil too.
  seqbin's steps: how much each number but the first is above the one ahead.
-/
import Derived.Test.YtbjgbigalfhnjaaGreatDoorSbGets
import Derived.Test.YtbjgbigalfhnjaaGreatDoorSet15
import Derived.Test.YtbjgbigalfhnjaaGreatDoorSet17
import Derived.Maps.OwnIn
namespace Go.Proofs.YtbjgbigalfhnjaaGreatDoor
open Go.RowKit

theorem wrg_none {f : Nat → Nat} {n : Nat} (h : Climbs f n) : ∀ k, k ≤ n → wrg (fun i => (f i : Int)) k = 0
  | 0, _ => rfl
  | k + 1, hk => by
    have h1 := h.top k hk
    rw [wrg, wrg_none h k (by omega), if_neg (by simp), if_neg (by omega)]
    by_cases h0 : 0 < k
    · have h2 := h.up (k - 1) (by omega)
      rw [show k - 1 + 1 = k by omega] at h2
      rw [if_neg (by omega)]
    · rw [if_neg (fun h => h0 h.1)]
theorem bnd_num {v : Nat} {M : Int} (hv : (v : Int) ≤ M) (hv64 : v < 18446744073709551616) (r : List UInt8) : bnd (num v ++ r) M 8 = (v, (num v).length, 0) := by
  unfold bnd
  rw [fst_num hv64]
  simp
  omega
theorem rdR_all (l r : List UInt8) : rdR (l ++ r) (l.length : Nat) = (l, l.length, 0) := by
  unfold rdR
  rw [if_neg (by omega), Int.toNat_natCast]
  unfold cutR
  rw [if_neg (by rw [List.length_append]; omega)]
  simp
theorem gF_congr_wrg {f g : Nat → Nat} {n : Nat} (h : ∀ i, i < n → g i = f i) : ∀ k, k ≤ n → wrg (fun i => (g i : Int)) k = wrg (fun i => (f i : Int)) k
  | 0, _ => rfl
  | k + 1, hk => by
    have h1 := h k hk
    have h2 : 0 < k → g (k - 1) = f (k - 1) := fun _ => h (k - 1) (by omega)
    rw [wrg, wrg, gF_congr_wrg h k (by omega), h1]
    by_cases h0 : 0 < k
    · rw [h2 h0]
    · simp [h0]

/-- The bytes of a sequence's row. -/
def seqR (f : Nat → Nat) (n : Nat) : List UInt8 := if n = 0 then [] else rby (seqV f (wdt f n) n) (seqN f (wdt f n) n)
theorem bits_of {f : Nat → Nat} {n : Nat} (h : Climbs f n) (hn : n ≠ 0) : gBits n (lst f n) = seqN f (wdt f n) n := by
  have h1 := (got_back h hn (wdt f n)).1
  unfold gBits seqN
  rw [show lowN n (lst f n) = wdt f n from rfl, h1, lst_pos f hn]
/-- What is put is read. -/
theorem reads_back {f : Nat → Nat} {n : Nat} (h : Climbs f n) (hn4 : n ≤ 4000) (s : List UInt8) : ∃ t1 t2 t3, Reads (seqB f n ++ s) 0 n (lst f n) (seqR f n) t1 0 t2 0 t3 0 ∧ t1 + t2 + t3 = (seqB f n).length := by
  have hl := lst_le h
  by_cases hn : n = 0
  · subst hn
    refine ⟨(num 0).length, 0, 0, ⟨?_, .inl ⟨rfl, rfl, rfl, rfl⟩, ?_⟩, by rw [seqB_none, Nat.add_zero]⟩
    · rw [st_ok, seqB_none]
      exact bnd_num (by decide) (by decide) s
    · rw [st_ok]
      have := rdR_all [] ((seqB f 0 ++ s).drop ((num 0).length + 0))
      rw [List.nil_append] at this
      rw [show seqR f 0 = [] from if_pos rfl, show gBits 0 (lst f 0) = 0 from (by decide : gBits 0 0 = 0)]
      exact this
  · have hb := bits_of h hn
    refine ⟨(num n).length, (num (lst f n)).length, nby (gBits n (lst f n)), ⟨?_, .inr ⟨hn, ?_⟩, ?_⟩, ?_⟩
    · rw [st_ok, seqB_some f hn, List.append_assoc]
      exact bnd_num (by omega) (by omega) _
    · rw [st_ok, seqB_some f hn, List.append_assoc, List.drop_left, List.append_assoc]
      exact bnd_num (by omega) (by omega) _
    · rw [st_ok, seqB_some f hn, List.append_assoc, ← List.drop_drop, List.drop_left, List.append_assoc, List.drop_left, hb]
      have := rdR_all (rby (seqV f (wdt f n) n) (seqN f (wdt f n) n)) s
      rw [rby_len] at this
      rw [this]
      unfold seqR
      rw [if_neg hn]
    · rw [seqB_some f hn, hb]
      simp only [List.length_append, rby_len]
      omega
theorem good_back {f : Nat → Nat} {n : Nat} (h : Climbs f n) : Good n (lst f n) (ofB (seqR f n)) ∧ ∀ i, i < n → gF n (lst f n) (ofB (seqR f n)) i = f i := by
  by_cases hn : n = 0
  · subst hn
    exact ⟨⟨by unfold seqR; rw [if_pos rfl]; exact (by decide : ofB [] < 2 ^ gBits 0 0), Nat.zero_le _, fun h => absurd rfl h, rfl⟩, fun i hi => by omega⟩
  · have hb := bits_of h hn
    obtain ⟨h1, h2, h3⟩ := got_back h hn (wdt f n)
    have hV : ofB (seqR f n) = seqV f (wdt f n) n := by
      unfold seqR
      rw [if_neg hn]
      exact ofB_rby (seqV_lt h _)
    rw [hV]
    have hg : ∀ i, i < n → gF n (lst f n) (seqV f (wdt f n) n) i = f i := fun i hi => by
      unfold gF
      rw [show lowN n (lst f n) = wdt f n from rfl, lst_pos f hn]
      exact h3 i hi
    refine ⟨⟨by rw [hb]; exact seqV_lt h _, ?_, fun _ => by rw [hg (n - 1) (by omega), lst_pos f hn], by rw [gF_congr_wrg hg n (Nat.le_refl _)]; exact wrg_none h n (Nat.le_refl _)⟩, hg⟩
    rw [show lowN n (lst f n) = wdt f n from rfl, lst_pos f hn]
    exact h2
theorem few_back {f : Nat → Nat} {n : Nat} (h : Climbs f n) (hn4 : n ≤ 4000) : n ≤ 4000 ∧ gBits n (lst f n) ≤ 1000000 := by
  refine ⟨hn4, ?_⟩
  by_cases hn : n = 0
  · subst hn; exact (by decide : gBits 0 0 ≤ 1000000)
  · rw [bits_of h hn]
    have := seqN_le h
    omega
theorem bnd_put {l : List UInt8} {N : Int} {a t : Nat} (hb : bnd l N 8 = (a, t, 0)) : num a = l.take t := by
  unfold bnd at hb
  split at hb
  · simp at hb; omega
  · split at hb
    · simp at hb
    · simp at hb
      exact num_fst (by rw [← hb.1, ← hb.2]; rename_i h3 _; simp at h3; rw [← h3])
/-- What is got is put in the same bytes. -/
theorem put_got {R v : List UInt8} {E n u t1 er1 t2 er2 t3 : Nat} (h : Reads R E n u v t1 er1 t2 er2 t3 0) (hg : Good n u (ofB v)) : seqB (gF n u (ofB v)) n = R.take (t1 + t2 + t3) := by
  obtain ⟨h2z, hvl, _, ht3, hv⟩ := h.few rfl
  by_cases hn : n = 0
  · subst hn
    rcases h.two with ⟨_, rfl, rfl, rfl⟩ | ⟨h1, _⟩
    · obtain ⟨rfl, h1⟩ := st_err h.one h2z
      have : t3 = 0 := by rw [ht3]; decide
      subst this
      rw [seqB_none, Nat.add_zero]
      exact bnd_put h1
    · exact absurd rfl h1
  · rcases h.two with ⟨h1, _⟩ | ⟨_, htwo⟩
    · exact absurd h1 hn
    · obtain ⟨he1, hb2⟩ := st_err htwo h2z
      obtain ⟨hE, hb1⟩ := st_err h.one he1
      rw [seqB_some _ hn, hg.lst hn, hg.wdt hn, (hg.same hn).1, (hg.same hn).2, rby_ofB hvl, bnd_put hb1, bnd_put hb2, hv]
      rw [List.take_add, List.take_add, List.append_assoc]

/-- A sequence's bytes, whatever stands behind, are got as it was. -/
theorem sb_getBack {f : Nat → Nat} {n : Nat} (hC : Climbs f n) (hn4 : n ≤ 4000) (base b : Nat) (s l : List UInt8) (w : World) (hl : l = seqB f n ++ s) (h : RdAt w base b l 0 0) (hT : TabIn w) (hb0 : 0 < base) :
    Calls Tryz.prog 21 #[.pointer (some ⟨b, 0, none⟩)] w fun e w' => ∃ q g, e = .returned (.pointer (some ⟨q, 0, none⟩)) ∧ SeqAt w' w.heap.size q g n ∧ (∀ i, i < n → g i = f i) ∧ RdAt w' base b l (seqB f n).length 0 ∧ KeepsT RT base w w' := by
  obtain ⟨t1, t2, t3, hR, htt⟩ := reads_back hC hn4 s
  rw [← hl] at hR
  have hgd := good_back hC
  refine (sb_getSeq base b 0 0 n (lst f n) t1 0 t2 0 t3 0 (seqR f n) l w h hT hb0 (fun _ => few_back hC hn4) (by rw [List.drop_zero]; exact hR)).mono fun e w' hg => ?_
  rcases hg.what with ⟨h1, _⟩ | ⟨_, _, h2, q, h3, h4⟩ | ⟨_, h1, _⟩
  · exact absurd rfl h1
  · rw [Nat.zero_add, htt] at h2
    exact ⟨q, _, h3, h4, hgd.2, h2, hg.keeps⟩
  · exact absurd hgd.1 h1

end Go.Proofs.YtbjgbigalfhnjaaGreatDoor

namespace Go.Proofs.YtbjgbigalfhnjaaGreatDoor
open Go.RowKit

theorem SeqAt.lower {w : World} {base base' s : Nat} {f : Nat → Nat} {n : Nat} (h : SeqAt w base s f n) (hb : base' ≤ base) : SeqAt w base' s f n := by
  obtain ⟨p, d, hs, hp, hd⟩ := h.mem
  exact ⟨h.climbs, h.num, p, d, hs, hp.lower hb, hd.lower hb⟩

/-- The sequence of the first n numbers lies at block q, from block 'base' on. -/
structure PxAt (w : World) (base q : Nat) (f : Nat → Nat) (n : Nat) : Prop where
  top : sm f n ≤ 1099511627776
  num : n ≤ 3900
  mem : ∃ s, w.heap[q]? = some (.cells #[.pointer (some ⟨s, 0, none⟩)] 59 (0, 0)) ∧ SeqAt w base s (sm f) (n + 1)
theorem PxAt.more {w w' : World} {base q : Nat} {f : Nat → Nat} {n : Nat} (h : PxAt w base q f n) (k : More w w') : PxAt w' base q f n := by
  obtain ⟨s, hq, hs⟩ := h.mem
  exact ⟨h.top, h.num, s, by rw [k.block q (lt_of_block hq)]; exact hq, hs.more k⟩
theorem PxAt.rd {w : World} {base q : Nat} {f : Nat → Nat} {n : Nat} (h : PxAt w base q f n) : ∃ s, w.cell? ⟨q, 0, none⟩ = some (.pointer (some ⟨s, 0, none⟩)) ∧ SeqAt w base s (sm f) (n + 1) := by
  obtain ⟨s, hq, hs⟩ := h.mem
  exact ⟨s, by simp [World.cell?, hq], hs⟩

theorem px_new_bad (v : Value) (K : Nat) (g : Nat → Int) (w : World) (h : ZRd w v K g) (hK : K ≤ 3900) (hb : ¬ Fits g K) :
    Calls Tryz.prog 6 #[v] w fun e w' => e = .returned (.tuple #[.pointer none, .int .i64 8]) ∧ More w w' := by
  have hs := px_sums v K g w h hK
  obtain ⟨ao, cap, rfl⟩ := h.shape
  clear h
  go_enter Tryz.func6, Tryz.ntmps6
  go_wp2_with (go_at_call 25; refine hs.mono ?_; rintro e w1 ⟨⟨hf, _⟩ | ⟨_, rfl⟩, hm⟩; exact absurd hf hb; have H1 := Hid.mk hm; clear hm hs)
  go_ret2
  exact ⟨rfl, H1.out⟩

set_option maxHeartbeats 800000 in
theorem px_new (v : Value) (K : Nat) (f : Nat → Nat) (w : World) (h : ZRd w v K (fun j => (f j : Int))) (hK : K ≤ 3900) (hf : sm f K ≤ 1099511627776) :
    Calls Tryz.prog 6 #[v] w fun e w' => ∃ q, e = .returned (.tuple #[.pointer (some ⟨q, 0, none⟩), .int .i64 0]) ∧ PxAt w' w.heap.size q f K ∧ More w w' := by
  have ef : (fun j => ((f j : Nat) : Int).toNat) = f := by funext j; simp
  have hs : Calls Tryz.prog 25 #[v, .int .i64 1099511627776] w fun e w' => (∃ ao cap, e = .returned (.tuple #[.slice ao (K + 1) cap, .bool true]) ∧ ZRd w' (.slice ao (K + 1) cap) (K + 1) (fun j => (sm f j : Int))) ∧ More w w' := (px_sums v K _ w h hK).mono fun e w' ⟨hs, hm⟩ => by
    rcases hs with ⟨_, ao, cap, he, ho⟩ | ⟨hn, _⟩
    · rw [ef] at ho; exact ⟨⟨ao, cap, he, zrd_own ho⟩, hm⟩
    · exact absurd ⟨fun j _ => Int.natCast_nonneg (f j), by rw [ef]; exact hf⟩ hn
  have hnew : ∀ w1 ao cap, ZRd w1 (.slice ao (K + 1) cap) (K + 1) (fun j => (sm f j : Int)) → _ := fun w1 ao cap hz => el_new _ (K + 1) (sm f) w1 hz (sm_climbs hf) (by omega)
  obtain ⟨ao, cap, rfl⟩ := h.shape
  have HH := Hid.mk hf
  clear h hf
  go_enter Tryz.func6, Tryz.ntmps6
  go_wp2_with (first
    | (go_at_call 25; refine hs.mono ?_; rintro e w1 ⟨⟨ao1, cap1, rfl, hz⟩, hm⟩; have H1 := Hid.mk (And.intro hz hm); clear hm hz hs)
    | (go_at_call 20; refine (hnew w1 _ _ H1.out.1).mono ?_; rintro e w2 ⟨s, rfl, hq, hm⟩; have H2 := Hid.mk (And.intro hq (More.trans H1.out.2 hm)); clear hq hm hnew))
  go_ret2
  refine ⟨_, rfl, ⟨HH.out, hK, s, heap_alloc_new _ _, (H2.out.1.lower H1.out.2.size).more (more_alloc _ _)⟩, H2.out.2.alloc H2.out.2.size _⟩

theorem px_len (base q : Nat) (f : Nat → Nat) (n : Nat) (w : World) (h : PxAt w base q f n) :
    Calls Tryz.prog 12 #[.pointer (some ⟨q, 0, none⟩)] w fun e w' => e = .returned (.int .i64 n) ∧ w' = w := by
  obtain ⟨s, c0, hs⟩ := h.rd
  have hl := el_len base s _ (n + 1) w hs
  have hn := h.num
  clear h hs
  go_enter Tryz.func12, Tryz.ntmps12
  go_wp2_with (go_at_call 22; refine hl.mono ?_; rintro e w' ⟨rfl, hw⟩; subst w')
  go_ret
  exact ⟨by simp, rfl⟩
theorem pxn_len (w : World) : Calls Tryz.prog 12 #[.pointer none] w fun e w' => e = .returned (.int .i64 0) ∧ w' = w := by
  go_enter Tryz.func12, Tryz.ntmps12
  go_wp2
  go_ret
  exact ⟨rfl, rfl⟩

theorem px_total (base q : Nat) (f : Nat → Nat) (n : Nat) (w : World) (h : PxAt w base q f n) :
    Calls Tryz.prog 13 #[.pointer (some ⟨q, 0, none⟩)] w fun e w' => e = .returned (.int .i64 (sm f n : Nat)) ∧ More w w' := by
  obtain ⟨s, c0, hs⟩ := h.rd
  have hl := el_last base s _ (n + 1) w hs
  rw [last_sum] at hl
  generalize sm f n = T at *
  clear h hs
  go_enter Tryz.func13, Tryz.ntmps13
  go_wp2_with (go_at_call 24; refine hl.mono ?_; rintro e w1 ⟨rfl, hm⟩; have H1 := Hid.mk hm; clear hm hl)
  go_ret
  exact ⟨rfl, H1.out⟩
theorem pxn_total (w : World) : Calls Tryz.prog 13 #[.pointer none] w fun e w' => e = .returned (.int .i64 0) ∧ w' = w := by
  go_enter Tryz.func13, Tryz.ntmps13
  go_wp2
  go_ret
  exact ⟨rfl, rfl⟩

set_option maxHeartbeats 800000 in
set_option maxRecDepth 1000000 in
theorem px_sum (base q : Nat) (f : Nat → Nat) (n : Nat) (lo hi : Int) (w : World) (h : PxAt w base q f n) :
    Calls Tryz.prog 32 #[.pointer (some ⟨q, 0, none⟩), .int .i64 lo, .int .i64 hi] w fun e w' => e = .returned (.int .i64 (sumZ f n lo hi)) ∧ More w w' := by
  have hl := px_len base q f n w h
  have htop := h.top
  unfold sumZ
  obtain ⟨A, hA⟩ : ∃ A, max lo (0 : Int) = A := ⟨_, rfl⟩
  obtain ⟨B, hB⟩ : ∃ B, min hi (n : Int) = B := ⟨_, rfl⟩
  rw [hA, hB]
  by_cases hle : B ≤ A
  · rw [if_pos hle]
    clear h htop
    go_enter Tryz.func32, Tryz.ntmps32
    go_wp2_with (go_at_call 12; refine hl.mono ?_; rintro e w' ⟨rfl, hw⟩; subst w'; clear hl)
    go_ret
    exact ⟨rfl, Below.refl _ _⟩
  · rw [if_neg hle]
    obtain ⟨a, rfl⟩ := Int.eq_ofNat_of_zero_le (show 0 ≤ A by omega)
    obtain ⟨b, rfl⟩ := Int.eq_ofNat_of_zero_le (show 0 ≤ B by omega)
    obtain ⟨s, c0, hs⟩ := h.rd
    have hq := World.block_lt_of_cell? w _ c0
    have l0 : ∀ u : Lat w, u.val.cell? ⟨q, 0, none⟩ = some (.pointer (some ⟨s, 0, none⟩)) := fun u => (u.more.cell (p := ⟨q, 0, none⟩) hq).trans c0
    have ka : ∀ u : Lat w, Calls Tryz.prog 23 #[.pointer (some ⟨s, 0, none⟩), .int .i64 a] u.val fun e w' => e = .returned (.int .i64 (sm f a : Nat)) ∧ ∃ u' : Lat w, w' = u'.val := fun u => by
      have := el_at base s (sm f) (n + 1) a u.val (hs.more u.more)
      rw [atZ_in (sm f) (n + 1) a (by omega)] at this
      exact this.mono fun e w' ⟨he, hm⟩ => ⟨he, u.grown hm⟩
    have kb : ∀ u : Lat w, Calls Tryz.prog 23 #[.pointer (some ⟨s, 0, none⟩), .int .i64 b] u.val fun e w' => e = .returned (.int .i64 (sm f b : Nat)) ∧ ∃ u' : Lat w, w' = u'.val := fun u => by
      have := el_at base s (sm f) (n + 1) b u.val (hs.more u.more)
      rw [atZ_in (sm f) (n + 1) b (by omega)] at this
      exact this.mono fun e w' ⟨he, hm⟩ => ⟨he, u.grown hm⟩
    have hab := sm_mono f (show a ≤ b by omega)
    have hbn := sm_mono f (show b ≤ n by omega)
    simp only [Int.toNat_natCast]
    generalize sm f a = X at *
    generalize sm f b = Y at *
    have hwZ : IntKind.i64.wrap ((Y : Int) - (X : Int)) = (Y : Int) - (X : Int) := by rw [IntKind.wrap_i64]; omega
    have hne : Nonempty (Lat w) := Lat.any w
    clear h htop hs c0 hq
    go_enter Tryz.func32, Tryz.ntmps32
    go_wp2_with (go_at_call 12; refine hl.mono ?_; rintro e w' ⟨rfl, hw⟩; subst w'; clear hl)
    refine wp_region_lat (by kernel_rfl) (by kernel_rfl) ?_
    repeat (quiet_step (first
      | (go_at_call_of 23 (Value.int IntKind.i64 a); exact ka _)
      | (go_at_call_of 23 (Value.int IntKind.i64 b); exact kb _)))
    refine wpQuiet_nil ?_
    rintro _ ⟨u, rfl⟩
    go_wp2
    go_ret
    exact ⟨rfl, u.more⟩
theorem pxn_sum (lo hi : Int) (w : World) : Calls Tryz.prog 32 #[.pointer none, .int .i64 lo, .int .i64 hi] w fun e w' => e = .returned (.int .i64 0) ∧ w' = w := by
  have hno : min hi (0 : Int) ≤ max lo (0 : Int) := by omega
  obtain ⟨A, hA⟩ : ∃ A, max lo (0 : Int) = A := ⟨_, rfl⟩
  obtain ⟨B, hB⟩ : ∃ B, min hi (0 : Int) = B := ⟨_, rfl⟩
  rw [hA, hB] at hno
  go_enter Tryz.func32, Tryz.ntmps32
  go_wp2_with (go_at_call 12; refine (pxn_len _).mono ?_; rintro e w' ⟨rfl, hw⟩; subst w')
  go_ret
  exact ⟨rfl, rfl⟩

theorem px_at (base q : Nat) (f : Nat → Nat) (n : Nat) (i : Int) (w : World) (h : PxAt w base q f n) :
    Calls Tryz.prog 14 #[.pointer (some ⟨q, 0, none⟩), .int .i64 i] w fun e w' => e = .returned (.int .i64 (atZ f n i)) ∧ More w w' := by
  have hl := px_len base q f n w h
  by_cases h0 : i < 0
  · rw [atZ_out f n i (by omega)]
    clear h hl
    go_enter Tryz.func14, Tryz.ntmps14
    go_wp2
    go_ret
    exact ⟨rfl, Below.refl _ _⟩
  obtain ⟨i, rfl⟩ := Int.eq_ofNat_of_zero_le (show 0 ≤ i by omega)
  by_cases h1 : i < n
  · rw [atZ_in f n i h1]
    have hs := px_sum base q f n i ((i : Int) + 1) w h
    rw [sum_one f n i h1] at hs
    have hn := h.num
    generalize f i = X at *
    clear h h0
    go_enter Tryz.func14, Tryz.ntmps14
    go_wp2_with (first
      | (go_at_call 12; refine hl.mono ?_; rintro e w' ⟨rfl, hw⟩; subst w'; clear hl)
      | (go_at_call 32; refine hs.mono ?_; rintro e w1 ⟨rfl, hm⟩; have H1 := Hid.mk hm; clear hm hs))
    go_ret
    exact ⟨rfl, H1.out⟩
  · rw [atZ_out f n i (by omega)]
    clear h h0
    go_enter Tryz.func14, Tryz.ntmps14
    go_wp2_with (go_at_call 12; refine hl.mono ?_; rintro e w' ⟨rfl, hw⟩; subst w')
    go_ret
    exact ⟨rfl, Below.refl _ _⟩
theorem pxn_at (i : Int) (w : World) : Calls Tryz.prog 14 #[.pointer none, .int .i64 i] w fun e w' => e = .returned (.int .i64 (-1)) ∧ w' = w := by
  rcases (show i < 0 ∨ (¬ i < 0 ∧ 0 ≤ i) by omega) with h | ⟨h, h2⟩
  all_goals
    go_enter Tryz.func14, Tryz.ntmps14
    go_wp2_with (go_at_call 12; refine (pxn_len _).mono ?_; rintro e w' ⟨rfl, hw⟩; subst w')
    go_ret
    exact ⟨rfl, rfl⟩

end Go.Proofs.YtbjgbigalfhnjaaGreatDoor

namespace Go.Proofs.YtbjgbigalfhnjaaGreatDoor
open Go.RowKit Go.Shelf
attribute [local go_sem] Oper.semAt_some

theorem own_stay {C : Nat → Prop} {w w' : World} {base : Nat} {e : TypeId} {size : Nat} {v : Value} {n : Nat} {xs : List Value} (h : w.ownsRow base e size v n xs) (hB : ∀ k, v.ownBlock = some k → C k) (k : Stay C w w') : w'.ownsRow base e size v n xs :=
  ⟨h.1, h.2.imp id fun ⟨g, cap, cur, hv, h1, hg, rest⟩ => ⟨g, cap, cur, hv, h1, (k.block g (hB g (by rw [hv]; rfl))).trans hg, rest⟩⟩
/-- How much the next number is above this one. -/
def stp (f : Nat → Nat) (i : Nat) : Nat := f (i + 1) - f i

/-- Between two rounds of steps: k numbers have come. -/
structure StI (wA : World) (B s : Nat) (f : Nat → Nat) (k : Nat) (E : Nat → Prop) (V : World) : Prop where
  row : ∃ v, Boxed V (B + 1) 22 v ∧ V.ownsRow B 3 1 v (k - 1) (ints (stp f) (k - 1)) ∧ ∀ j, v.ownBlock = some j → E j ∧ (j = B ∨ B + 1 + 1 + 1 + 1 ≤ j)
  b4 : Boxed V (B + 1 + 1) 3 (.int .i64 ((if k = 0 then 0 else f (k - 1) : Nat) : Int))
  bs : Boxed V (B + 1 + 1 + 1) 49 (.pointer (some ⟨s, 0, none⟩))
  more : More wA V
  low : ∀ j, j < B + 1 + 1 + 1 + 1 → E j
  sz : B ≤ V.heap.size
theorem StI.stay {wA : World} {B s : Nat} {f : Nat → Nat} {k : Nat} {E : Nat → Prop} {V V' : World} (h : StI wA B s f k E V) (st : Stay E V V') (hB : wA.heap.size ≤ B) : StI wA B s f k E V' := by
  obtain ⟨v, h1, h2, h3⟩ := h.row
  exact ⟨⟨v, st.boxed h1 (h.low _ (by omega)), own_stay h2 (fun j hj => (h3 j hj).1) st, h3⟩, st.boxed h.b4 (h.low _ (by omega)), st.boxed h.bs (h.low _ (by omega)), Below.trans h.more (st.below fun j hj => h.low j (by omega)), h.low, Nat.le_trans h.sz st.size⟩

/-- An append to a slice of the caller's, as a round's doing. -/
theorem turn_append {lo : Nat} {E : Nat → Prop} {V Va w2 : World} {v : Value} (hm : More V Va) (hg : Va.grownBy w2 v.ownBlock) (hv : ∀ j, v.ownBlock = some j → E j ∧ lo ≤ j) : Turn lo E (fun k => E k ∨ (V.heap.size ≤ k ∧ k < w2.heap.size)) V w2 :=
  ⟨hg.os.trans hm.os, hg.tape.trans hm.tape, hg.output.trans hm.output, Nat.le_trans hm.size hg.size, fun k hk hd => by
    rw [hg.block k (Nat.lt_of_lt_of_le hk hm.size) (fun e => ?_), hm.block k hk]
    have h := hv k e.symm
    rcases hd with h1 | h1
    · omega
    · exact h1 h.1, fun _ => Iff.rfl⟩

set_option maxRecDepth 1000000 in
set_option maxHeartbeats 4000000 in
theorem sb_steps (n : Nat) (hn : 16 ≤ n) (base s : Nat) (f : Nat → Nat) (N : Nat) (w : World) (hA : SeqAt w base s f N) (hT : TabIn w) (hN0 : 0 < N) :
    CallsIn Fence.wide n Tryz.prog 28 #[.pointer (some ⟨s, 0, none⟩)] w fun e w' => ∃ v, e = .returned v ∧ w'.ownsRow w.heap.size 3 1 v (N - 1) (ints (stp f) (N - 1)) ∧ More w w' := by
  have h1 : 1 ≤ n := by omega
  have hNb := hA.num
  have hCl := hA.climbs
  obtain ⟨i0, hi, hz0, hz1, hz2⟩ := info_parts Tryz.infoInt
  have hlen := el_len base s f N w hA
  have hseq := eall_in (n - 1) (by omega) (w.heap.size + 1 + 1 + 1) base s f N w hA hT
  obtain ⟨wa, hwa⟩ : ∃ wa, w.alloc (.cells (madeCells #[.int .i64 0] N) 3) = wa := ⟨_, rfl⟩
  have hmake : (Instr.makeSlice 22 (.int .i64 0) (.int .i64 (N : Int))).run Tryz.prog w = .ok (.slice (some ⟨w.heap.size, 0, none⟩) 0 N) wa := by
    have hr := run_make (P := Tryz.prog) w 22 3 i0 (.int .i64 0) Tryz.underlying22 hi hz0 .i64 .i64 0 N (by omega) (by omega) (by rw [hz2]; omega) (by omega)
    simp only [Int.toNat_natCast, Int.toNat_zero, hz1, Nat.mul_one] at hr
    rw [← hwa]; exact hr
  have hsa : wa.heap.size = w.heap.size + 1 := by rw [← hwa]; simp
  have hma : More w wa := by rw [← hwa]; exact more_alloc _ _
  have hrow0 : wa.ownsRow w.heap.size 3 1 (.slice (some ⟨w.heap.size, 0, none⟩) 0 N) 0 [] := by
    rw [← hwa]; exact World.ownsRow_made w _ N (Nat.le_refl _) (by unfold maxLen; omega) (by rw [size_madeCells, Nat.mul_one])
  obtain ⟨wb, hwb⟩ : ∃ wb, wa.alloc (.cells #[.slice none 0 0] 22) = wb := ⟨_, rfl⟩
  have bb : Boxed wb (w.heap.size + 1) 22 (.slice none 0 0) := by rw [← hwb, ← hsa]; exact Boxed.new _ _ _
  have hsb : wb.heap.size = w.heap.size + 1 + 1 := by rw [← hwb]; simp [hsa]
  have hmb : More wa wb := by rw [← hwb]; exact more_alloc _ _
  have cb := bb.cell
  have fb := bb.frozen
  obtain ⟨wc, hwc⟩ : ∃ wc, wb.setCell ⟨w.heap.size + 1, 0, none⟩ (.slice (some ⟨w.heap.size, 0, none⟩) 0 N) = wc := ⟨_, rfl⟩
  have bc : Boxed wc (w.heap.size + 1) 22 (.slice (some ⟨w.heap.size, 0, none⟩) 0 N) := by rw [← hwc]; exact bb.set _
  have hsc : wc.heap.size = w.heap.size + 1 + 1 := by rw [← hwc, ← hsb]; simp
  have hmc : More wa wc := by rw [← hwc]; exact hmb.setCell (p := ⟨w.heap.size + 1, 0, none⟩) (by first | (simp; done) | (simp; omega)) _
  obtain ⟨wd, hwd⟩ : ∃ wd, wc.alloc (.cells #[.int .i64 0] 3) = wd := ⟨_, rfl⟩
  have bd : Boxed wd (w.heap.size + 1 + 1) 3 (.int .i64 0) := by rw [← hwd, ← hsc]; exact Boxed.new _ _ _
  have hsd : wd.heap.size = w.heap.size + 1 + 1 + 1 := by rw [← hwd]; simp [hsc]
  have hmd : More wc wd := by rw [← hwd]; exact more_alloc _ _
  have cd := bd.cell
  have fd := bd.frozen
  obtain ⟨we, hwe⟩ : ∃ we, wd.setCell ⟨w.heap.size + 1 + 1, 0, none⟩ (.int .i64 0) = we := ⟨_, rfl⟩
  have be : Boxed we (w.heap.size + 1 + 1) 3 (.int .i64 0) := by rw [← hwe]; exact bd.set _
  have be1 : Boxed we (w.heap.size + 1) 22 (.slice (some ⟨w.heap.size, 0, none⟩) 0 N) := by rw [← hwe]; exact (boxed_more bc hmd).other (by omega) _
  have hse : we.heap.size = w.heap.size + 1 + 1 + 1 := by rw [← hwe, ← hsd]; simp
  have hme : More wa we := by rw [← hwe]; exact (More.trans hmc hmd).setCell (p := ⟨w.heap.size + 1 + 1, 0, none⟩) (by simp; omega) _
  have HH := Hid.mk (And.intro be (And.intro be1 (And.intro (More.trans hma hme) (More.own hrow0 hme))))
  clear hA hT be be1 hme hma hrow0 hmb hmc hmd bc bd bb
  refine callsIn_of_wp_marks Tryz.func28 rfl trivial ?_ rfl
  simp only [Tryz.ntmps28, List.size_toArray, List.length_cons, List.length_nil, Nat.reduceAdd, Nat.reduceSub, Array.replicate_succ, Array.replicate_zero, List.push_toArray, List.append_toArray, List.nil_append, List.cons_append]
  gi_wp2_with (first
    | (refine ⟨trivial, ?_⟩; gi_at_call 22; refine (callsIn_wide.2 hlen).mono ?_; rintro e w' ⟨rfl, hw'⟩; subst w')
    | (refine ⟨trivial, ?_⟩; gi_at_call 62; refine (eall_call _ _ _).mono ?_; rintro e w' ⟨rfl, hw'⟩; subst w'))
  obtain ⟨w1, hw1⟩ : ∃ w1, we.alloc (.cells #[.pointer (some ⟨s, 0, none⟩)] 49) = w1 := ⟨_, rfl⟩
  have hm1 : More we w1 := by rw [← hw1]; exact more_alloc _ _
  have hs1 : w1.heap.size = w.heap.size + 1 + 1 + 1 + 1 := by rw [← hw1]; simp [hse]
  have b5 : Boxed w1 (w.heap.size + 1 + 1 + 1) 49 (.pointer (some ⟨s, 0, none⟩)) := by rw [← hw1, ← hse]; exact Boxed.new _ _ _
  have hA1 := More.trans HH.out.2.2.1 hm1
  have st1 : StI w w.heap.size s f 0 (fun k => k < w1.heap.size) w1 := ⟨⟨_, boxed_more HH.out.2.1 hm1, More.own HH.out.2.2.2 hm1, fun j hj => by simp [Value.ownBlock] at hj; subst hj; exact ⟨by omega, .inl rfl⟩⟩, boxed_more HH.out.1 hm1, b5, hA1, fun j hj => by rw [hs1]; exact hj, hA1.size⟩
  rw [hw1]
  clear hw1 hwa hwb hwc hwd hwe HH b5 cb fb cd fd hmake hlen hsa hsb hsc hsd hse
  refine range_set rfl h1 (gf := 88) (lb := #[.pointer (some ⟨w.heap.size + 1 + 1 + 1, 0, none⟩)]) rfl trivial (enters_of Tryz.func88 (by kernel_rfl) rfl)
    hseq (by omega) hA1 (fun _ => rfl)
    (fun pre E V => StI w w.heap.size s f pre.length E V)
    (fun _ _ _ _ => False)
    (fun s E A A' h k => h.stay k (Nat.le_refl _))
    (fun _ _ _ _ _ h _ => h)
    (fun _ _ _ h => h.bs) st1
    (fun x => { tmps := #[.pointer (some ⟨s, 0, none⟩), undef, .slice none 0 0, .pointer (some ⟨w.heap.size + 1, 0, none⟩), .pointer (some ⟨w.heap.size + 1 + 1, 0, none⟩), .int .i64 x.1, .int .i64 x.2, .pointer (some ⟨s, 0, none⟩), .int .i64 N, .slice (some ⟨w.heap.size, 0, none⟩) 0 N, .pointer (some ⟨s, 0, none⟩), .func (.func 88) #[] #[.pointer (some ⟨w.heap.size + 1 + 1 + 1, 0, none⟩)], .int .i64 x.1, .int .i64 x.2, undef, undef, undef, undef, undef, undef, undef, undef, undef, undef], defers := [] }) ?assign ?body ?done ?stop
  case assign =>
    intro l2 x V K' hK'
    gi_wp2
    exact hK'
  case body =>
    rintro l2 pre ⟨x1, x2⟩ V E ⟨c, hc, hSp⟩ st hwE hlw hszV hlenN
    obtain ⟨rfl, rfl, rfl⟩ := one_next hSp
    clear hSp
    have hd : 1 ≤ n - 1 - 1 := by omega
    obtain ⟨k, hk⟩ : ∃ k, pre.length = k := ⟨_, rfl⟩
    have HL : Hid (∀ x : Int × Int, (pre ++ [x]).length = k + 1) := Hid.mk fun x => by rw [List.length_append, List.length_singleton, hk]
    rw [hk] at st hlenN hc ⊢
    clear hk hseq hm1 hA1 st1
    cases k with
    | zero =>
      obtain ⟨v, h2, h3, h4⟩ := st.row
      have c4 := st.b4.cell
      have f4 := st.b4.frozen
      rw [if_pos rfl] at c4
      obtain ⟨X, hX⟩ : ∃ X, f 0 = X := ⟨_, rfl⟩
      rw [hX]
      have HO := Hid.mk (show Turn w.heap.size E E V (V.setCell ⟨w.heap.size + 1 + 1, 0, none⟩ (.int .i64 X)) ∧ StI w w.heap.size s f (0 + 1) E (V.setCell ⟨w.heap.size + 1 + 1, 0, none⟩ (.int .i64 X)) from
        ⟨(Turn.refl _ _ _).setCell (p := ⟨w.heap.size + 1 + 1, 0, none⟩) (by simp; omega) (st.low _ (by simp)) _, ⟨v, h2.other (by omega) _, (h3.kept (grownBy_setCell' V (w.heap.size + 1 + 1) _) (by
          cases hv : v.ownBlock with
          | none => exact .inl rfl
          | some j => exact .inr (fun e => by have h5 := (h4 j hv).2; have h6 : j = w.heap.size + 1 + 1 := Option.some.inj e; omega))), h4⟩, by have := st.b4.set (.int .i64 X); rw [if_neg (by omega), show 0 + 1 - 1 = 0 from rfl, hX]; exact this, st.bs.other (by omega) _, st.more.setCell (p := ⟨w.heap.size + 1 + 1, 0, none⟩) (by simp; omega) _, st.low, Nat.le_trans st.sz (KeepsOthers.setCell V _ _).size⟩)
      clear st h2 h3 h4 hX
      gi_wp2
      refine ⟨E, HO.out.1, ?_⟩
      dsimp only
      rw [HL.out]
      exact HO.out.2
    | succ k =>
      obtain ⟨v, h2, h3, h4⟩ := st.row
      rw [show k + 1 - 1 = k from rfl] at h3
      obtain ⟨av, cv, rfl⟩ := shape_of h3
      have c3 := h2.cell
      have f3' := h2.frozen
      have c4 := st.b4.cell
      rw [if_neg (by omega), show k + 1 - 1 = k from rfl] at c4
      have hup := hCl.up k (by omega)
      have htop := hCl.top (k + 1) (by omega)
      obtain ⟨X, hX⟩ : ∃ X, f (k + 1) = X := ⟨_, rfl⟩
      obtain ⟨Y, hY⟩ : ∃ Y, f k = Y := ⟨_, rfl⟩
      rw [hX, hY] at hup
      rw [hX] at htop ⊢
      rw [hY] at c4
      obtain ⟨Z, hZ⟩ : ∃ Z, X - Y = Z := ⟨_, rfl⟩
      have e1 : (X : Int) - (Y : Int) = (Z : Int) := by omega
      have hwZ : IntKind.i64.wrap (Z : Int) = Z := by rw [IntKind.wrap_i64]; omega
      have hZe : Hid (stp f k = Z) := Hid.mk (by unfold stp; rw [hX, hY, hZ])
      have HS := Hid.mk (And.intro st (And.intro h2 (And.intro h3 (And.intro h4 hX))))
      have hk0 : (0 : Int) < ((k + 1 : Nat) : Int) := by omega
      have hsV := st.sz
      clear st h2 h3 h4 hX hY hZ
      gi_wp2_with (gi_at_builtin; refine wpListIn_append_own_at _ rfl (.tmp 16) (.tmp 20) 22 rfl w.heap.size 3 i0 (.int .i64 0) 1 8 Tryz.underlying22 hi hz0 hz1 hz2 rfl (by decide) _ _ _ rfl (HS.out.2.2.1.alloc _) ⟨V.heap.size, 0, none⟩ 1 1 [.int .i64 (Z : Int)] rfl rfl (one_cell _ _ _) (one_i64 _) (by unfold maxLen; omega) (by omega) (by simp; omega) ?_)
      intro v2 w2 hown2 hg2 _ hat2
      obtain ⟨st, h2, h3, h4, hXe⟩ := HS.out
      rw [← hZe.out, ← ints_succ] at hown2
      have hVa : More V (V.alloc (.cells #[.int .i64 (Z : Int)] 3)) := more_alloc _ _
      have htu := turn_append (lo := w.heap.size) hVa hg2 (fun j hj => ⟨(h4 j hj).1, by have := (h4 j hj).2; omega⟩)
      have hbx : ∀ {j : Nat} {t : TypeId} {u : Value}, w.heap.size < j → j < w.heap.size + 1 + 1 + 1 + 1 → Boxed V j t u → Boxed w2 j t u := fun {j} {t} {u} ha hb hbb => by
        have hl := hbb.lt
        refine (hg2.block j (Nat.lt_of_lt_of_le hl hVa.size) (fun e => ?_)).trans ((hVa.block j hl).trans hbb)
        have := (h4 j e.symm).2
        omega
      have b3 := hbx (by omega) (by omega) h2
      have b4 := hbx (by omega) (by omega) st.b4
      have b5 := hbx (by omega) (by omega) st.bs
      have hv2 : ∀ j, v2.ownBlock = some j → (E j ∨ (V.heap.size ≤ j ∧ j < w2.heap.size)) ∧ (j = w.heap.size ∨ w.heap.size + 1 + 1 + 1 + 1 ≤ j) := fun j hj => by
        have hl := hown2.lt j hj
        rcases hat2 with h | h
        · rw [h] at hj
          exact ⟨.inl (h4 j hj).1, (h4 j hj).2⟩
        · rw [h] at hj
          have : V.heap.size + 1 = j := by simpa using hj
          exact ⟨.inr ⟨by omega, hl.2⟩, .inr (by omega)⟩
      obtain ⟨a2, c2, rfl⟩ := shape_of hown2
      have d3 := b3.cell
      have g3 := b3.frozen
      have b33 := b3.set (.slice a2 (k + 1) c2)
      have b43 := b4.other (show w.heap.size + 1 + 1 ≠ w.heap.size + 1 by omega) (.slice a2 (k + 1) c2)
      have b53 := b5.other (show w.heap.size + 1 + 1 + 1 ≠ w.heap.size + 1 by omega) (.slice a2 (k + 1) c2)
      have hown3 : (w2.setCell ⟨w.heap.size + 1, 0, none⟩ (.slice a2 (k + 1) c2)).ownsRow w.heap.size 3 1 (.slice a2 (k + 1) c2) (k + 1) (ints (stp f) (k + 1)) := hown2.kept (grownBy_setCell' w2 (w.heap.size + 1) _) (by
        cases hv : (Value.slice a2 (k + 1) c2).ownBlock with
        | none => exact .inl rfl
        | some j => exact .inr (fun e => by have h5 := (hv2 j hv).2; have h6 : j = w.heap.size + 1 := Option.some.inj e; omega))
      have htu3 := htu.setCell (p := ⟨w.heap.size + 1, 0, none⟩) (by first | (simp; done) | (simp; omega)) (.inl (st.low _ (by first | (simp; done) | (simp; omega)))) (.slice a2 (k + 1) c2)
      have hsz3 : w2.heap.size = (w2.setCell ⟨w.heap.size + 1, 0, none⟩ (.slice a2 (k + 1) c2)).heap.size := by simp
      have hm3 : More w (w2.setCell ⟨w.heap.size + 1, 0, none⟩ (.slice a2 (k + 1) c2)) := Below.trans st.more (htu3.below st.sz)
      have d4 := b43.cell
      have g4 := b43.frozen
      have HO := Hid.mk (show Turn w.heap.size E (fun k => E k ∨ (V.heap.size ≤ k ∧ k < w2.heap.size)) V ((w2.setCell ⟨w.heap.size + 1, 0, none⟩ (.slice a2 (k + 1) c2)).setCell ⟨w.heap.size + 1 + 1, 0, none⟩ (.int .i64 X)) ∧ StI w w.heap.size s f (k + 1 + 1) (fun k => E k ∨ (V.heap.size ≤ k ∧ k < w2.heap.size)) ((w2.setCell ⟨w.heap.size + 1, 0, none⟩ (.slice a2 (k + 1) c2)).setCell ⟨w.heap.size + 1 + 1, 0, none⟩ (.int .i64 X)) from
        ⟨htu3.setCell (p := ⟨w.heap.size + 1 + 1, 0, none⟩) (by simp; omega) (.inl (st.low _ (by first | (simp; done) | (simp; omega)))) _, ⟨_, b33.other (by omega) _, hown3.kept (grownBy_setCell' _ (w.heap.size + 1 + 1) _) (by
          cases hv : (Value.slice a2 (k + 1) c2).ownBlock with
          | none => exact .inl rfl
          | some j => exact .inr (fun e => by have h5 := (hv2 j hv).2; have h6 : j = w.heap.size + 1 + 1 := Option.some.inj e; omega)), hv2⟩,
          by have := b43.set (.int .i64 X); rw [if_neg (by omega), show k + 1 + 1 - 1 = k + 1 from rfl, hXe]; exact this, b53.other (by omega) _, hm3.setCell (p := ⟨w.heap.size + 1 + 1, 0, none⟩) (by simp; omega) _, fun j hj => .inl (st.low j hj), Nat.le_trans hm3.size (KeepsOthers.setCell _ _ _).size⟩)
      clear st h2 h3 h4 hown2 hg2 hat2 htu hbx b3 b4 b5 hv2 b33 b43 b53 hown3 htu3 hm3 hVa hsz3 HS
      gi_wp2
      refine ⟨_, HO.out.1, ?_⟩
      dsimp only
      rw [HL.out]
      exact HO.out.2
  case done =>
    rintro D ys E V hD hED rfl st hwE _ hKD
    rw [allZ_len] at st
    obtain ⟨v, h2, h3, h4⟩ := st.row
    have c3 := h2.cell
    have HS := Hid.mk (And.intro st (And.intro h3 h4))
    clear st h2 h3 h4
    gi_wp2
    refine leaves_set (C := E) (B := w1.heap.size) (.cons (by omega) hKD (fun _ h => by cases h) .nil) (one_mark hED) fun w' hw' _ => ?_
    refine ⟨v, by simp [results, Tryz.f28, go_sem], v, rfl, own_stay HS.out.2.1 (fun j hj => (HS.out.2.2 j hj).1) hw', (HS.out.1.stay hw' (Nat.le_refl _)).more⟩
  case stop =>
    rintro D cc pre E V hD hED _ h _ _ _
    exact h.elim

end Go.Proofs.YtbjgbigalfhnjaaGreatDoor
