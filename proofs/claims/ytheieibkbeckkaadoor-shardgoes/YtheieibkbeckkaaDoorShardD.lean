/-
  shard: New, walked.
-/
import Derived.Test.YtheieibkbeckkaaDoorShardC
namespace Go.Proofs.YtheieibkbeckkaaDoor
open Go.RowKit

theorem Tryd.infoPart : (Tryd.prog.info? 46).map (fun i => (i.zero, i.size, i.bytes)) = some (some .nilIface, 1, 16) := by kernel_rfl
theorem PartAt.one {w : World} {base : Nat} {pv : Value} {g : Nat → Nat} {m : Nat} (h : PartAt w base pv g m) : ∀ u ∈ [pv], u.oneCell' = true := by
  intro u hu
  simp at hu
  subst hu
  rcases h with ⟨_, rfl⟩ | ⟨_, rfl⟩ | ⟨_, s, rfl, _⟩ <;> rfl

theorem PartAt.shape {w : World} {base : Nat} {pv : Value} {g : Nat → Nat} {m : Nat} (h : PartAt w base pv g m) : ∃ t u, pv = .iface t u := by
  rcases h with ⟨_, rfl⟩ | ⟨_, rfl⟩ | ⟨_, s, rfl, _⟩ <;> exact ⟨_, _, rfl⟩

/-- A list of ints that came in, and may be cut: its length is within its room. -/
theorem ZRd.cutAt {w : World} {b o K cap : Nat} {g : Nat → Int} (h : ZRd w (.slice (some ⟨b, o, none⟩) K cap) K g) (a m : Nat) (hm : a + m ≤ K) (c : Nat) : ZRd w (.slice (some ⟨b, o + a, none⟩) m c) m (fun j => g (a + j)) := by
  rcases h with ⟨rfl, _⟩ | ⟨b', o', cap', h, hb, hc⟩
  · obtain rfl : m = 0 := by omega
    exact .inl ⟨rfl, _, _, rfl⟩
  · simp at h
    obtain ⟨⟨rfl, rfl⟩, rfl⟩ := h
    exact .inr ⟨b, o + a, c, rfl, hb, fun j hj => by rw [Nat.add_assoc]; exact hc (a + j) (by omega)⟩

theorem sh_new_bad (v : Value) (K : Nat) (g : Nat → Int) (w : World) (h : ZRd w v K g) (hK : K ≤ 1000000) (hw : wrg g K ≠ 0) :
    Calls Tryd.prog 6 #[v] w fun e w' => e = .returned (.tuple #[.pointer none, .int .i64 (wrg g K)]) ∧ w' = w := by
  have hb := el_new_bad v K g w h hK hw
  obtain ⟨ao, cap, rfl⟩ := h.shape
  obtain ⟨E, hE⟩ : ∃ E, wrg g K = E := ⟨_, rfl⟩
  rw [hE] at hb hw ⊢
  clear h hE
  go_enter Tryd.func6, Tryd.ntmps6
  go_wp2_with (go_at_call 12; refine hb.mono ?_; rintro e w' ⟨rfl, hw'⟩; subst w')
  go_ret2
  exact ⟨rfl, rfl⟩

set_option maxHeartbeats 3200000 in
set_option maxRecDepth 1000000 in
theorem sh_new (ao : Option Addr) (n cap : Nat) (f : Nat → Nat) (w : World) (h : ZRd w (.slice ao n cap) n (fun j => (f j : Int))) (hcap : n ≤ cap) (hC : Climbs f n) (hn : n ≤ 1000) :
    Calls Tryd.prog 6 #[.slice ao n cap] w fun e w' => ∃ q, e = .returned (.tuple #[.pointer (some ⟨q, 0, none⟩), .int .i64 0]) ∧ ShAt w' w.heap.size q f n ∧ More w w' := by
  obtain ⟨i0, hi, hz0, hz1, hz2⟩ := info_parts Tryd.infoInt
  obtain ⟨j0, hj, hy0, hy1, hy2⟩ := info_parts Tryd.infoPart
  have hnew := el_new _ n f w h hC hn
  have HH := Hid.mk (And.intro h hC)
  have T1 : Hid True := trivial
  clear h hC
  go_enter Tryd.func6, Tryd.ntmps6
  go_wp2_with (go_at_call 12; have T2 := T1; clear T1; refine hnew.mono ?_; rintro e w1 ⟨s0, rfl, _, hm⟩; have H1 := Hid.mk hm; clear hm hnew)
  have HN : Hid (NewAt w (w1.alloc (.cells #[.int .i64 n, .pointer none, .slice none 0 0] 44)) w1.heap.size 0 0 (.slice none 0 0) f n) :=
    Hid.mk ⟨Below.alloc H1.out H1.out.size _, H1.out.size, World.ownsRow_nil _ _ _ _, _, (fun _ => .nilIface), heap_alloc_new _ _, World.ownsRow_nil _ _ _ _, (fun _ => False), fun _ hb => hb.elim, fun _ _ j hj => by omega⟩
  go_loopw [7, 8] (fun vf i wr => ∃ k a : Nat, k ≤ prts n ∧ a ≤ 1032 ∧ i = .int .i64 a ∧ Hid (a = 32 * k) ∧ Hid (NewAt w wr w1.heap.size k k vf f n)) (fun _ i _ => n + 32 - (intOf i).toNat)
  case atStart => exact ⟨0, 0, Nat.zero_le _, by omega, rfl, Hid.mk rfl, HN⟩
  case round =>
    obtain ⟨k, a, hk, ha, rfl, HA, HR⟩ := hrel
    obtain ⟨af, cf, rfl⟩ := shape_of HR.out.fst
    by_cases hkK : a < n
    · obtain ⟨bl, o, rfl, hc⟩ := HH.out.1.cell (w' := wr) a hkK
      have hck := hc HR.out.below
      clear hc
      obtain ⟨x, hx⟩ : ∃ x, f a = x := ⟨_, rfl⟩
      rw [hx] at hck
      have HX := Hid.mk hx
      clear hx hk
      go_wp2_with (at_builtin; refine wpList_append_lies _ rfl (.tmp 27) (.tmp 32) 22 rfl w.heap.size 3 i0 (.int .i64 0) 1 8 Tryd.underlying22 hi hz0 hz1 hz2 rfl (by decide) _ _ _ rfl (HR.out.fst.alloc _) ⟨wr.heap.size, 0, none⟩ 1 1 [.int .i64 (x : Int)] rfl rfl ?c1 ?c2 ?c3 ?c4 ?c5 ?c6 (wr.heap.size + 1) ?c7 ?_)
      case c1 => exact one_cell _ _ _
      case c2 => exact one_i64 _
      case c3 => decide
      case c4 => unfold maxLen; have := HA.out; omega
      case c5 => have := HA.out; omega
      case c6 => have := HR.out.below.size; simp; omega
      case c7 => simp
      intro g cg w2 hown hg hat _
      rw [← HX.out, HA.out, show f (32 * k) = frs f k from rfl, ← ints_succ] at hown
      have HN2 := Hid.mk (HR.out.first hg hown hat)
      clear hown hg hat
      obtain ⟨vp, pv, hq, hv, hrest⟩ := HN2.out.mem
      obtain ⟨ap, cp, rfl⟩ := shape_of hv
      obtain ⟨c0, c1, c2, _⟩ := cells3 hq
      have hlt := lt_of_block hq
      have hkp : k < prts n := by have := HA.out; unfold prts; omega
      obtain ⟨M, hM⟩ : ∃ M, prtn n k = M := ⟨_, rfl⟩
      obtain ⟨E, hE⟩ : ∃ E, a + M = E := ⟨_, rfl⟩
      have hmin : min ((a : Int) + 32) (n : Int) = (E : Int) := by have := HA.out; unfold prtn at hM; omega
      have hwr : IntKind.i64.wrap ((a : Int) + 32) = (a : Int) + 32 := by rw [IntKind.wrap_i64]; omega
      have hEn : E ≤ n := by omega
      have hEM : E - a = M := by omega
      have haE : a ≤ E := by omega
      have hEc : E ≤ cap := by omega
      have hca : ¬ cap = a := by omega
      have hz : ∀ w', More w2 w' → ZRd w' (.slice (some ⟨bl, o + a, none⟩) M (cap - a)) M (fun j => (prt f k j : Int)) := fun w' hm => by
        have h1 := (HH.out.1.more (More.trans HN2.out.below hm)).cutAt a M (by omega) (cap - a)
        refine h1.congr fun j _ => ?_
        show ((f (a + j) : Nat) : Int) = (prt f k j : Nat)
        rw [HA.out]; rfl
      have hpart := fun w' (hm : More w2 w') => sh_partOf _ M (prt f k) w' (hz w' hm) (by rw [← hM]; exact prt_climbs HH.out.2 k) (by have := prtn_le n k; omega)
      have HQ := Hid.mk (And.intro hq (And.intro hv (And.intro hrest hM)))
      clear hq hv hrest hz hE hM HR hck HX hkp
      go_wp2_with fail
      go_region_law (first
        | (refine step_append_lies _ rfl (.tmp 38) (.tmp 48) 42 rfl w.heap.size 46 j0 .nilIface 1 16 Tryd.underlying42 hj hy0 hy1 hy2 rfl (by decide) _ _ _ rfl ((More.own HQ.out.2.1 H3.out.2).alloc _) ⟨w3.heap.size, 0, none⟩ 1 1 [.iface t0 u0] rfl rfl (one_cell _ _ _) H3.out.1.one (by decide) (by unfold maxLen; have := HA.out; omega) (by have := HA.out; omega) (by have := HN2.out.below.size; have := H3.out.2.size; simp; omega) (w3.heap.size + 1) (by simp) ?_
           intro g4 cg4 w4 hown4 hg4 hat4 _
           obtain ⟨hq4, hN4⟩ := NewAt.part HN2.out H3.out.2 (by rw [HQ.out.2.2.2]; exact H3.out.1) HQ.out.1 HQ.out.2.1 HQ.out.2.2.1 hg4 hown4 hat4
           have H4 := Hid.mk hN4
           obtain ⟨e0, e1, e2, _⟩ := cells3 hq4
           have e3 := (cells3' hq4).2
           clear hown4 hg4 hat4 hq4 hN4 hpart d2 d3)
        | (go_simp; go_at_call 13; refine (hpart _ (More.drewN _ 1)).mono ?_; rintro e w3 ⟨pv0, rfl, hp, hm⟩; obtain ⟨t0, u0, rfl⟩ := hp.shape
           have H3 : Hid (PartAt w3 w2.heap.size (.iface t0 u0) (prt f k) M ∧ More w2 w3) := Hid.mk ⟨hp, More.trans (More.drewN w2 1) hm⟩
           clear hp hm
           have d2 : w3.cell? ⟨w1.heap.size, 2, none⟩ = some (.slice ap k cp) := (H3.out.2.cell (p := ⟨w1.heap.size, 2, none⟩) hlt).trans c2
           have d3 : w1.heap.size < w3.heap.size := Nat.lt_of_lt_of_le hlt H3.out.2.size))
      all_goals
        go_wp2
        exact ⟨⟨k + 1, a + 32, by have := HA.out; unfold prts; omega, by omega, by go_num, Hid.mk (by have := HA.out; omega), H4⟩, by simp [intOf]; omega⟩
    · obtain rfl : k = prts n := by have := HA.out; unfold prts at hk ⊢; omega
      have hfn := el_new _ (prts n) (frs f) wr (zrd_of_own HR.out.fst) (frs_climbs HH.out.2) (by unfold prts; omega)
      obtain ⟨vp, pv, hq, hv, hrest⟩ := HR.out.mem
      obtain ⟨c0, c1, c2, c3⟩ := cells3 hq
      have hlt := lt_of_block hq
      clear hv hrest hq
      go_wp2_with (go_at_call 12; refine hfn.mono ?_; rintro e w5 ⟨s, rfl, hs, hm⟩; have H5 := Hid.mk (And.intro hs hm); clear hs hm hfn; have d1 := (H5.out.2.cell (p := ⟨w1.heap.size, 1, none⟩) hlt).trans c1; have d3 := (H5.out.2.frozen (p := ⟨w1.heap.size, 1, none⟩) hlt).trans c3)
      go_ret2
      obtain ⟨hS, hB⟩ := HR.out.done rfl HH.out.2 hn H5.out.1 H5.out.2
      exact ⟨_, rfl, hS, hB⟩

end Go.Proofs.YtheieibkbeckkaaDoor
