/-
  What is put is got as it was, plainly.
-/
import Derived.Test.YtbfolfacppbalaaDoorSbGets
namespace Go.Proofs.YtbfolfacppbalaaDoor
open Go.RowKit

theorem wrg_none {f : Nat → Nat} {n : Nat} (h : Climbs f n) : ∀ k, k ≤ n → wrg (fun i => (f i : Int)) k = 0
  | 0, _ => rfl
  | k + 1, hk => by
    have h1 := h.top k hk
    rw [wrg, wrg_none h k (by omega), if_neg (by simp), if_neg (by omega)]
    by_cases h0 : 0 < k
    · have h2 := h.up (k - 1) (by omega)
      rw [show k - 1 + 1 = k by omega] at h2
      rw [if_neg (by omega)]
    · rw [if_neg (fun h => h0 h.1)]
theorem bnd_num {v : Nat} {M : Int} (hv : (v : Int) ≤ M) (hv64 : v < 18446744073709551616) (r : List UInt8) : bnd (num v ++ r) M 8 = (v, (num v).length, 0) := by
  unfold bnd
  rw [fst_num hv64]
  simp
  omega
theorem rdR_all (l r : List UInt8) : rdR (l ++ r) (l.length : Nat) = (l, l.length, 0) := by
  unfold rdR
  rw [if_neg (by omega), Int.toNat_natCast]
  unfold cutR
  rw [if_neg (by rw [List.length_append]; omega)]
  simp
theorem gF_congr_wrg {f g : Nat → Nat} {n : Nat} (h : ∀ i, i < n → g i = f i) : ∀ k, k ≤ n → wrg (fun i => (g i : Int)) k = wrg (fun i => (f i : Int)) k
  | 0, _ => rfl
  | k + 1, hk => by
    have h1 := h k hk
    have h2 : 0 < k → g (k - 1) = f (k - 1) := fun _ => h (k - 1) (by omega)
    rw [wrg, wrg, gF_congr_wrg h k (by omega), h1]
    by_cases h0 : 0 < k
    · rw [h2 h0]
    · simp [h0]

/-- The bytes of a sequence's row. -/
def seqR (f : Nat → Nat) (n : Nat) : List UInt8 := if n = 0 then [] else rby (seqV f (wdt f n) n) (seqN f (wdt f n) n)
theorem bits_of {f : Nat → Nat} {n : Nat} (h : Climbs f n) (hn : n ≠ 0) : gBits n (lst f n) = seqN f (wdt f n) n := by
  have h1 := (got_back h hn (wdt f n)).1
  unfold gBits seqN
  rw [show lowN n (lst f n) = wdt f n from rfl, h1, lst_pos f hn]
/-- What is put is read. -/
theorem reads_back {f : Nat → Nat} {n : Nat} (h : Climbs f n) (hn4 : n ≤ 4000) (s : List UInt8) : ∃ t1 t2 t3, Reads (seqB f n ++ s) 0 n (lst f n) (seqR f n) t1 0 t2 0 t3 0 ∧ t1 + t2 + t3 = (seqB f n).length := by
  have hl := lst_le h
  by_cases hn : n = 0
  · subst hn
    refine ⟨(num 0).length, 0, 0, ⟨?_, .inl ⟨rfl, rfl, rfl, rfl⟩, ?_⟩, by rw [seqB_none, Nat.add_zero]⟩
    · rw [st_ok, seqB_none]
      exact bnd_num (by decide) (by decide) s
    · rw [st_ok]
      have := rdR_all [] ((seqB f 0 ++ s).drop ((num 0).length + 0))
      rw [List.nil_append] at this
      rw [show seqR f 0 = [] from if_pos rfl, show gBits 0 (lst f 0) = 0 from (by decide : gBits 0 0 = 0)]
      exact this
  · have hb := bits_of h hn
    refine ⟨(num n).length, (num (lst f n)).length, nby (gBits n (lst f n)), ⟨?_, .inr ⟨hn, ?_⟩, ?_⟩, ?_⟩
    · rw [st_ok, seqB_some f hn, List.append_assoc]
      exact bnd_num (by omega) (by omega) _
    · rw [st_ok, seqB_some f hn, List.append_assoc, List.drop_left, List.append_assoc]
      exact bnd_num (by omega) (by omega) _
    · rw [st_ok, seqB_some f hn, List.append_assoc, ← List.drop_drop, List.drop_left, List.append_assoc, List.drop_left, hb]
      have := rdR_all (rby (seqV f (wdt f n) n) (seqN f (wdt f n) n)) s
      rw [rby_len] at this
      rw [this]
      unfold seqR
      rw [if_neg hn]
    · rw [seqB_some f hn, hb]
      simp only [List.length_append, rby_len]
      omega
theorem good_back {f : Nat → Nat} {n : Nat} (h : Climbs f n) : Good n (lst f n) (ofB (seqR f n)) ∧ ∀ i, i < n → gF n (lst f n) (ofB (seqR f n)) i = f i := by
  by_cases hn : n = 0
  · subst hn
    exact ⟨⟨by unfold seqR; rw [if_pos rfl]; exact (by decide : ofB [] < 2 ^ gBits 0 0), Nat.zero_le _, fun h => absurd rfl h, rfl⟩, fun i hi => by omega⟩
  · have hb := bits_of h hn
    obtain ⟨h1, h2, h3⟩ := got_back h hn (wdt f n)
    have hV : ofB (seqR f n) = seqV f (wdt f n) n := by
      unfold seqR
      rw [if_neg hn]
      exact ofB_rby (seqV_lt h _)
    rw [hV]
    have hg : ∀ i, i < n → gF n (lst f n) (seqV f (wdt f n) n) i = f i := fun i hi => by
      unfold gF
      rw [show lowN n (lst f n) = wdt f n from rfl, lst_pos f hn]
      exact h3 i hi
    refine ⟨⟨by rw [hb]; exact seqV_lt h _, ?_, fun _ => by rw [hg (n - 1) (by omega), lst_pos f hn], by rw [gF_congr_wrg hg n (Nat.le_refl _)]; exact wrg_none h n (Nat.le_refl _)⟩, hg⟩
    rw [show lowN n (lst f n) = wdt f n from rfl, lst_pos f hn]
    exact h2
theorem few_back {f : Nat → Nat} {n : Nat} (h : Climbs f n) (hn4 : n ≤ 4000) : n ≤ 4000 ∧ gBits n (lst f n) ≤ 1000000 := by
  refine ⟨hn4, ?_⟩
  by_cases hn : n = 0
  · subst hn; exact (by decide : gBits 0 0 ≤ 1000000)
  · rw [bits_of h hn]
    have := seqN_le h
    omega
theorem bnd_put {l : List UInt8} {N : Int} {a t : Nat} (hb : bnd l N 8 = (a, t, 0)) : num a = l.take t := by
  unfold bnd at hb
  split at hb
  · simp at hb; omega
  · split at hb
    · simp at hb
    · simp at hb
      exact num_fst (by rw [← hb.1, ← hb.2]; rename_i h3 _; simp at h3; rw [← h3])
/-- What is got is put in the same bytes. -/
theorem put_got {R v : List UInt8} {E n u t1 er1 t2 er2 t3 : Nat} (h : Reads R E n u v t1 er1 t2 er2 t3 0) (hg : Good n u (ofB v)) : seqB (gF n u (ofB v)) n = R.take (t1 + t2 + t3) := by
  obtain ⟨h2z, hvl, _, ht3, hv⟩ := h.few rfl
  by_cases hn : n = 0
  · subst hn
    rcases h.two with ⟨_, rfl, rfl, rfl⟩ | ⟨h1, _⟩
    · obtain ⟨rfl, h1⟩ := st_err h.one h2z
      have : t3 = 0 := by rw [ht3]; decide
      subst this
      rw [seqB_none, Nat.add_zero]
      exact bnd_put h1
    · exact absurd rfl h1
  · rcases h.two with ⟨h1, _⟩ | ⟨_, htwo⟩
    · exact absurd h1 hn
    · obtain ⟨he1, hb2⟩ := st_err htwo h2z
      obtain ⟨hE, hb1⟩ := st_err h.one he1
      rw [seqB_some _ hn, hg.lst hn, hg.wdt hn, (hg.same hn).1, (hg.same hn).2, rby_ofB hvl, bnd_put hb1, bnd_put hb2, hv]
      rw [List.take_add, List.take_add, List.append_assoc]

/-- A sequence's bytes, whatever stands behind, are got as it was. -/
theorem sb_getBack {f : Nat → Nat} {n : Nat} (hC : Climbs f n) (hn4 : n ≤ 4000) (base b : Nat) (s l : List UInt8) (w : World) (hl : l = seqB f n ++ s) (h : RdAt w base b l 0 0) (hT : TabIn w) (hb0 : 0 < base) :
    Calls Tryd.prog 36 #[.pointer (some ⟨b, 0, none⟩)] w fun e w' => ∃ q g, e = .returned (.pointer (some ⟨q, 0, none⟩)) ∧ SeqAt w' w.heap.size q g n ∧ (∀ i, i < n → g i = f i) ∧ RdAt w' base b l (seqB f n).length 0 ∧ KeepsT RT base w w' := by
  obtain ⟨t1, t2, t3, hR, htt⟩ := reads_back hC hn4 s
  rw [← hl] at hR
  have hgd := good_back hC
  refine (sb_getSeq base b 0 0 n (lst f n) t1 0 t2 0 t3 0 (seqR f n) l w h hT hb0 (fun _ => few_back hC hn4) (by rw [List.drop_zero]; exact hR)).mono fun e w' hg => ?_
  rcases hg.what with ⟨h1, _⟩ | ⟨_, _, h2, q, h3, h4⟩ | ⟨_, h1, _⟩
  · exact absurd rfl h1
  · rw [Nat.zero_add, htt] at h2
    exact ⟨q, _, h3, h4, hgd.2, h2, hg.keeps⟩
  · exact absurd hgd.1 h1

end Go.Proofs.YtbfolfacppbalaaDoor
