/-
  seqbin's PutSums of nil; what numbers are put as by their sums.
-/
import Derived.Test.YtbjgbigalfhnjaaGreatDoorSbPutS
import Derived.Test.YtbjgbigalfhnjaaGreatDoorSbNil
namespace Go.Proofs.YtbjgbigalfhnjaaGreatDoor
open Go.RowKit Go.Shelf
attribute [local go_sem] Oper.semAt_some

set_option maxRecDepth 1000000 in
theorem pall_nil (n : Nat) (hn : 16 ≤ n) (Bs lo : Nat) (f : Nat → Nat) (wA : World) :
    SeqSet Fence.wide n Tryz.prog 61 #[.pointer (some ⟨Bs, 0, none⟩)] encP lo (fun A => Boxed A Bs 26 (.pointer none)) (fun xs => xs = allZ f 0) (fun pre => ∃ c, c ≤ 0 ∧ pre = allZ f c) 0 wA := by
  intro l J Jx W C0 hW hC0 hlo hJ hJx hKp hY h0
  have bs := hKp _ _ _ h0
  have h1 : 1 ≤ n := by omega
  have hm : More W (W.alloc (.cells #[.func (.yield l) #[] #[]] 94)) := more_alloc _ _
  have cs := (boxed_more bs hm).cell
  have HH := Hid.mk (And.intro hm (hJ _ _ _ _ h0 (Stay.of_more hm hC0)))
  clear hm bs hY hKp
  refine callsIn_of_wp Tryz.func61 rfl trivial ?_ rfl
  simp only [Tryz.ntmps61, List.size_toArray, List.length_cons, List.length_nil, Nat.reduceAdd, Nat.reduceSub, Array.replicate_succ, Array.replicate_zero, List.push_toArray, List.append_toArray, List.nil_append, List.cons_append]
  gi_wp2
  refine bodyPost_ret (results_none rfl _ _ _) rfl ?_
  exact ⟨⟨_, rfl⟩, .inl ⟨[], C0, rfl, HH.out.2, hC0.more HH.out.1.size⟩⟩

theorem seqB_nil : seqB (sm fun _ => 0) (0 + 1) = [1, 0, 1] := by
  rw [seqB_some _ (by decide), num_small (by decide), num_small (by decide)]
  decide

theorem nput_sums (base wb : Nat) (l : List UInt8) (w : World) (h : WrAt w base wb l) (hb0 : 0 < base) (hT : TabIn w) (hl : l.length ≤ 100000) :
    Calls Tryz.prog 7 #[.pointer (some ⟨wb, 0, none⟩), .pointer none] w fun e w' => e = .returned (.tuple #[]) ∧ WrAt w' base wb (l ++ [1, 0, 1]) ∧ KeepsT WT base w w' := by
  have h := (callsIn_wide (n := 20)).1 (sb_putSums 20 (Nat.le_refl _) base wb none (fun _ => 0) 0 l w h hb0 hT (by decide) hl (by decide) (pxn_len w) (pall_nil 19 (by decide) _ _ _ _))
  refine h.mono fun e w' h => ?_
  unfold PutSumsAt at h
  rw [seqB_nil] at h
  exact h

theorem put_sums (base wb base' q : Nat) (f : Nat → Nat) (N : Nat) (l : List UInt8) (w : World) (h : WrAt w base wb l) (hb0 : 0 < base) (hA : PxAt w base' q f N) (hT : TabIn w) (hN : N ≤ 2000) (hl : l.length ≤ 100000) :
    Calls Tryz.prog 7 #[.pointer (some ⟨wb, 0, none⟩), .pointer (some ⟨q, 0, none⟩)] w fun e w' => e = .returned (.tuple #[]) ∧ WrAt w' base wb (l ++ seqB (sm f) (N + 1)) ∧ KeepsT WT base w w' :=
  (callsIn_wide (n := 20)).1 (sb_putSums 20 (Nat.le_refl _) base wb (some ⟨q, 0, none⟩) f N l w h hb0 hT hN hl hA.top (px_len base' q f N w hA) (pall_in 19 (by decide) _ base' q f N w hA hT))
end Go.Proofs.YtbjgbigalfhnjaaGreatDoor
