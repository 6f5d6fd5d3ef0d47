/-
  The numbers of a pack, gone over: All hands over each number with its place, as long as it is told to go on.
-/
import Derived.Test.YtbjdjidamocmoaaPackLawB
import Derived.RangeFuncNested
import Derived.RangeFuncBound
import Derived.RangeFuncCalls
import Derived.RangeFuncLeaves
import Derived.Shelf.Abstract
import Derived.Shelf.RegionOpen
import Derived.OwnWalkIn
import Derived.TacticsInMore
import Derived.LoopNIn
import Derived.LoopIn
namespace Go.Proofs.Ytbjdjidamocmoaa
open Go.RowKit Go.Shelf

/-- The first k numbers, each with its place. -/
def allN (g : Nat → Nat) (k : Nat) : List (Int × Nat) := (List.range k).map fun (j : Nat) => ((j : Int), g j)
theorem allN_succ (g : Nat → Nat) (k : Nat) : allN g (k + 1) = allN g k ++ [((k : Int), g k)] := by
  simp [allN, List.range_succ]
theorem allN_len (g : Nat → Nat) (k : Nat) : (allN g k).length = k := by simp [allN]

abbrev encN (x : Int × Nat) : Array Value := #[.int .i64 x.1, .int .u64 (x.2 : Nat)]

theorem grown_drew (w : World) (m : Nat) : w.grownBy (w.drewN m) none := ⟨rfl, rfl, rfl, Nat.le_refl _, fun _ _ _ => rfl⟩

set_option maxHeartbeats 1000000 in
/-- What All gives goes over the numbers of the pack, as long as it is told to go on; it looks at nothing but the pack. -/
theorem all1_in (n : Nat) (hn : 1 ≤ n) (l Bp base p V d N : Nat) (wA : World) (hA : PackAt wA base p V d N) (hBl : Bp < wA.heap.size) (hBp : wA.cell? ⟨Bp, 0, none⟩ = some (.pointer (some ⟨p, 0, none⟩)))
    (J Jx : List (Int × Nat) → World → Prop) (hJd : ∀ pre W m, J pre W → J pre (W.drewN m))
    (hY : ∀ pre x W, J pre W → pre.length < N → YieldAt Fence.wide (n - 1) Try.prog l (encN x) W fun e W' =>
      (e = .returned (.bool true) ∧ J (pre ++ [x]) W' ∧ Below wA.heap.size W W') ∨ (e = .returned (.bool false) ∧ Jx (pre ++ [x]) W'))
    (W : World) (hW : More wA W) (h0 : J [] W) :
    CallsIn Fence.wide n Try.prog 35 #[.func (.yield l) #[] #[], .pointer (some ⟨Bp, 0, none⟩)] W fun e W' => (∃ v, e = .returned v) ∧
      ((∃ ys, ys = allN (fun j => atV V d N j) N ∧ J ys W') ∨ (∃ pre, (∃ k, k ≤ N ∧ pre = allN (fun j => atV V d N j) k) ∧ Jx pre W')) := by
  have cB := (hW.cell (p := ⟨Bp, 0, none⟩) hBl).trans hBp
  have hlen := pack_len p V d N W (hA.more hW).rd
  have hN := hA.num
  have HA : Hid _ := And.intro hA (And.intro hBl hBp)
  clear hA hBl hBp
  refine callsIn_of_wp Try.func35 rfl trivial ?_ rfl
  simp only [Try.ntmps35, List.size_toArray, List.length_cons, List.length_nil, Nat.reduceAdd, Nat.reduceSub, Array.replicate_succ, Array.replicate_zero, List.push_toArray, List.append_toArray, List.nil_append, List.cons_append]
  gi_wp2_with (refine ⟨trivial, ?_⟩; gi_at_call 13; refine (callsIn_wide.2 hlen).mono ?_; rintro e w' ⟨rfl, hw'⟩; subst w')
  gi_loopw [6] (fun kk wr => ∃ k : Nat, kk = .int .i64 k ∧ k ≤ N ∧ Hid (More wA wr) ∧ J (allN (fun j => atV V d N j) k) wr)
    (fun kk _ => N - (intOf kk).toNat)
  case atStart => exact ⟨0, rfl, Nat.zero_le _, Hid.mk hW, h0⟩
  case round =>
    obtain ⟨k, rfl, hk, hM, hJs⟩ := hrel
    by_cases hkN : k < N
    · have cBr := (hM.out.cell (p := ⟨Bp, 0, none⟩) HA.out.2.1).trans HA.out.2.2
      have hat := pack_at p V d N k wr (HA.out.1.more hM.out).rd
      have hJd' := fun m => hJd _ wr m hJs
      gi_wp2_with (refine ⟨trivial, ?_⟩; gi_at_call 12; refine (callsIn_wide.2 hat).mono ?_; rintro e w' ⟨rfl, m, hw'⟩; subst w'; obtain ⟨fn, tmps, assign, body, hy, hRd⟩ := hY (allN (fun j => atV V d N j) k) ((k : Int), atV V d N k) (wr.drewN m) (hJd' m) (by rw [allN_len]; exact hkN); dsimp only [encN] at hy)
      rw [← allN_succ (fun j => atV V d N j)] at hRd
      refine hRd.mono ?_
      clear hRd hat hy
      rintro e W3 (⟨rfl, hJ3, hk3⟩ | ⟨rfl, hJx3⟩)
      · have hM3 : Hid (More wA W3) := Hid.mk (Below.trans (Below.trans hM.out ((More.drewN wr m).mono hM.out.size)) hk3)
        gi_wp2
        go_roundw
        case rel => exact ⟨k + 1, by go_num, by omega, hM3, hJ3⟩
        case measure => simp [intOf]; omega
      · gi_wp2
        refine bodyPost_ret (results_none rfl _ _ _) rfl ?_
        exact ⟨⟨_, rfl⟩, .inr ⟨_, ⟨k + 1, by omega, rfl⟩, hJx3⟩⟩
    · obtain rfl : k = N := by omega
      gi_wp2
      go_end0
      exact ⟨⟨_, rfl⟩, .inl ⟨_, rfl, hJs⟩⟩

/-- What All gives as a going over that may be left early. -/
theorem all_stops (n : Nat) (hn : 1 ≤ n) (Bp base p V d N : Nat) (wA w : World) (hA : PackAt wA base p V d N) (hBl : Bp < wA.heap.size) (hBp : wA.cell? ⟨Bp, 0, none⟩ = some (.pointer (some ⟨p, 0, none⟩))) (hw : More wA w) :
    SeqStopsK Fence.wide n Try.prog 35 #[.pointer (some ⟨Bp, 0, none⟩)] encN (Below wA.heap.size) (fun xs => xs = allN (fun j => atV V d N j) N) (fun pre => ∃ k, k ≤ N ∧ pre = allN (fun j => atV V d N j) k) N w :=
  fun l J Jx W hW hJ _ hY h0 => all1_in n hn l Bp base p V d N wA hA hBl hBp J Jx (fun pre W' m h => hJ pre W' _ none h (grown_drew W' m) (fun r e => by cases e)) hY W (More.trans hw hW) h0

theorem pack_all (n p : Nat) (w : World) : CallsIn Fence.wide n Try.prog 21 #[.pointer (some ⟨p, 0, none⟩)] w fun e w' => e = .returned (.func (.func 35) #[] #[.pointer (some ⟨w.heap.size, 0, none⟩)]) ∧ w' = w.alloc (.cells #[.pointer (some ⟨p, 0, none⟩)] 24) := by
  refine callsIn_of_wp Try.func21 rfl trivial ?_ rfl
  simp only [Try.ntmps21, List.size_toArray, List.length_cons, List.length_nil, Nat.reduceAdd, Nat.reduceSub, Array.replicate_succ, Array.replicate_zero, List.push_toArray, List.append_toArray, List.nil_append, List.cons_append]
  gi_wp2
  go_ret
  exact ⟨rfl, rfl⟩

end Go.Proofs.Ytbjdjidamocmoaa
