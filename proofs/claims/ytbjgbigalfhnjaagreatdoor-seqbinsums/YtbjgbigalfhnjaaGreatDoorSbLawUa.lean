/-
  What SeqbinSums calls, in the form in which it calls it.
-/
import Derived.Test.YtbjgbigalfhnjaaGreatDoorSbNilS
import Derived.Test.YtbjgbigalfhnjaaGreatDoorSbRefD
import Derived.Test.YtbjgbigalfhnjaaGreatDoorSet23
import Derived.Test.YtbjgbigalfhnjaaGreatDoorSbLive
import Derived.Test.YtbjgbigalfhnjaaGreatDoorSet16
namespace Go.Proofs.YtbjgbigalfhnjaaGreatDoor
open Go.RowKit

/-- The slots of operations that are put off. -/
def putAll (a : Act) : List Oper → Act
  | [] => a
  | o :: os => putAll (a.put o.dst undef) os
/-- Are they all put off by their guards? -/
def offB (ops : Array Oper) (a : Act) : List Oper → Bool
  | [] => true
  | o :: os => !Region.wanted o (yielded ops a.tmps) && offB ops (a.put o.dst undef) os
theorem wpQuiet_offs {P : Program} {ops : Array Oper} {C : World → Prop} {Q : Act → Prop} {rest : List Oper} : ∀ (os : List Oper) (a : Act), offB ops a os = true → wpQuiet P ops C Q rest (putAll a os) → wpQuiet P ops C Q (os ++ rest) a
  | [], _, _, h => h
  | o :: os, a, hw, h => wpQuiet_step fun K hK => by
    simp only [offB, Bool.and_eq_true, Bool.not_eq_true'] at hw
    rw [hw.1, if_neg (by decide)]
    exact hK _ (wpQuiet_offs os _ hw.2 h)
/-- The next k operations are put off by their guards, and their slots are not filled. -/
theorem wpQuiet_past {P : Program} {ops : Array Oper} {C : World → Prop} {Q : Act → Prop} {a : Act} {l : List Oper} (k : Nat) (hw : offB ops a (l.take k) = true) (hp : putAll a (l.take k) = a) (h : wpQuiet P ops C Q (l.drop k) a) : wpQuiet P ops C Q l a := by
  have h1 := wpQuiet_offs (P := P) (ops := ops) (C := C) (Q := Q) (rest := l.drop k) (l.take k) a hw (by rw [hp]; exact h)
  rwa [List.take_append_drop] at h1

theorem udoc_bad (base x E n u t1 er1 t2 er2 t3 er : Nat) (v l : List UInt8) (w : World) (h : XAt w base x l E) (hfew : er = 0 → n ≤ 4000 ∧ gBits n u ≤ 1000000) (hR : Reads l E n u v t1 er1 t2 er2 t3 er) (hbad : ¬ (er = 0 ∧ Good n u (ofB v))) :
    Calls Tryz.prog 15 #[.pointer (some ⟨x, 0, none⟩)] w fun e w' => e = .returned (.slice none 0 0) ∧ XAt w' base x (l.drop (t1 + t2 + t3)) (uErr er) ∧ KeepsT XT base w w' :=
  (rsb_getSeq base x E n u t1 er1 t2 er2 t3 er v l w h hfew hR).mono fun e w' hg => by
    rcases hg.what with ⟨h1, h2, h3⟩ | ⟨h1, h2, _⟩ | ⟨h1, _, h2, h3⟩
    · exact ⟨h2, by unfold uErr; rw [if_neg h1]; exact h3, hg.keeps⟩
    · exact absurd ⟨h1, h2⟩ hbad
    · exact ⟨h2, by unfold uErr; rw [if_pos h1]; exact h3, hg.keeps⟩
theorem udoc_good (base x E n u t1 er1 t2 er2 t3 : Nat) (v l : List UInt8) (w : World) (h : XAt w base x l E) (hfew : n ≤ 4000 ∧ gBits n u ≤ 1000000) (hR : Reads l E n u v t1 er1 t2 er2 t3 0) (hgd : Good n u (ofB v)) :
    Calls Tryz.prog 15 #[.pointer (some ⟨x, 0, none⟩)] w fun e w' => ∃ s, e = .returned s ∧ w'.ownsRow w.heap.size 3 1 s n (ints (gF n u (ofB v)) n) ∧ XAt w' base x (l.drop (t1 + t2 + t3)) 0 ∧ KeepsT XT base w w' :=
  (rsb_getSeq base x E n u t1 er1 t2 er2 t3 0 v l w h (fun _ => hfew) hR).mono fun e w' hg => by
    rcases hg.what with ⟨h1, _⟩ | ⟨_, _, h2, s, h3, h4⟩ | ⟨_, h1, _⟩
    · exact absurd rfl h1
    · exact ⟨s, h3, h4, h2, hg.keeps⟩
    · exact absurd hgd h1
theorem ux_new (w : World) (l : List UInt8) (hl : l.length ≤ 100000000) : XAt (w.alloc (.cells #[.string (bs l), .int .i64 0] 44)) w.heap.size w.heap.size l 0 :=
  ⟨Nat.le_refl _, by simp, hl, heap_alloc_new _ _⟩

/-- The document's sums of numbers that have some. -/
theorem ref_sums (v : Value) (K : Nat) (f : Nat → Nat) (w : World) (h : ZRd w v K (fun j => (f j : Int))) (hK : K ≤ 3900) (hF : sm f K ≤ 1099511627776) :
    Calls Tryz.prog 5 #[v] w fun e w' => ∃ ao cap, e = .returned (.tuple #[.slice ao (K + 1) cap, .bool true]) ∧ w'.ownsRow w.heap.size 3 1 (.slice ao (K + 1) cap) (K + 1) (ints (sm f) (K + 1)) ∧ More w w' :=
  (refx_sums v K _ w h hK).mono fun e w' ⟨hs, hm⟩ => by
    have ef : (fun j => ((f j : Nat) : Int).toNat) = f := by funext j; simp
    rcases hs with ⟨_, ao, cap, h1, h2⟩ | ⟨h1, _⟩
    · rw [ef] at h2
      exact ⟨ao, cap, h1, h2, hm⟩
    · exact absurd ⟨fun j _ => Int.natCast_nonneg (f j), by rw [ef]; exact hF⟩ h1

/-- What sums are put as is got as they were. -/
theorem sums_back (f : Nat → Nat) (N base b : Nat) (l : List UInt8) (w : World) (hl : l = seqB (sm f) (N + 1)) (hF : sm f N ≤ 1099511627776) (hN : N ≤ 2000) (h : RdAt w base b l 0 0) (hT : TabIn w) (hb0 : 0 < base) :
    Calls Tryz.prog 8 #[.pointer (some ⟨b, 0, none⟩)] w fun e w' => ∃ q g, e = .returned (.pointer (some ⟨q, 0, none⟩)) ∧ PxAt w' w.heap.size q g N ∧ (∀ i, i < N → g i = f i) ∧ KeepsT RT base w w' := by
  have hC := sm_climbs hF
  obtain ⟨t1, t2, t3, hR, _⟩ := reads_back hC (by omega) []
  rw [List.append_nil, ← hl] at hR
  have hgd := good_back hC
  have hfw := few_back hC (by omega)
  refine (sums_good base b 0 0 (N + 1) (lst (sm f) (N + 1)) t1 0 t2 0 t3 (seqR (sm f) (N + 1)) l w h hT hb0 ⟨by omega, hfw.2⟩ (by rw [List.drop_zero]; exact hR) hgd.1 (by omega) (hgd.2 0 (by omega))).mono fun e w' ⟨q, h1, h2, _, h4⟩ => ?_
  refine ⟨q, _, h1, h2, fun i hi => ?_, h4⟩
  unfold stp
  rw [hgd.2 (i + 1) (by omega), hgd.2 i (by omega), sm]
  omega

theorem seqB_few {f : Nat → Nat} {K : Nat} (hF : sm f K ≤ 1099511627776) (hK : K ≤ 40) : (seqB (sm f) (K + 1)).length ≤ 1000 := by
  have hC := sm_climbs hF
  rw [seqB_some _ (by omega)]
  have h1 := (num_ten (v := K + 1) (by omega)).1
  have h2 := (num_ten (v := lst (sm f) (K + 1)) (by have := lst_le hC; omega)).1
  have h3 := seqN_le hC
  simp only [List.length_append, rby_len, nby_is]
  omega
end Go.Proofs.YtbjgbigalfhnjaaGreatDoor
