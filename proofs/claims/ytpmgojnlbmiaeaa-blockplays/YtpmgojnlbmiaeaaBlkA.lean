/-
  block: the heap's methods.
-/
import Derived.Test.YtpmgojnlbmiaeaaBlkMem
import Derived.Shelf.RegionOpenPlain
namespace Go.Proofs.Ytpmgojnlbmiaeaa
open Go.RowKit

/-- An append whose run is known, as one step of a region that draws. -/
theorem step_append_is {P : Program} {ops : Array Oper} {o : Oper} {a : Act} {w : World} {K : Act → World → Prop} {Q : Exit → Act → World → Prop} {E : Prop} (hg : o.guard = none) (s x : Operand) (t : TypeId) (hop : o.op = Op.call { callee := Callee.builtin Builtin.append, args := #[s, x], argTypes := #[t, t] })
    {v vx v' : Value} {w' : World} (hs : a.eval s = v) (hx : a.eval x = vx) (hr : (Builtin.append_ #[t, t] o.type #[v, vx]).run P w = .ok v' w') (hK : K (a.put o.dst v') w') :
    if Region.wanted o (yielded ops a.tmps) = true then Oper.wp P o a w K Q else E := by
  rw [if_pos (by simp [Region.wanted, hg])]
  unfold Oper.wp
  simp [execOp, hop, resolve, invoke, builtin, hs, hx, hr, Result.andThen]
  exact hK
/-- A clear whose run is known. -/
theorem step_clear_is {P : Program} {ops : Array Oper} {o : Oper} {a : Act} {w : World} {K : Act → World → Prop} {Q : Exit → Act → World → Prop} {E : Prop} (hg : o.guard = none) (s : Operand) (t : TypeId) (hop : o.op = Op.call { callee := Callee.builtin Builtin.clear, args := #[s], argTypes := #[t] })
    {v v' : Value} {w' : World} (hs : a.eval s = v) (hr : (Builtin.clear_ #[t] o.type #[v]).run P w = .ok v' w') (hK : K (a.put o.dst v') w') :
    if Region.wanted o (yielded ops a.tmps) = true then Oper.wp P o a w K Q else E := by
  rw [if_pos (by simp [Region.wanted, hg])]
  unfold Oper.wp
  simp [execOp, hop, resolve, invoke, builtin, hs, hr, Result.andThen]
  exact hK
theorem as_int (v : Value) (w : World) : (Instr.typeAssert (.iface 3 v) 20 3 false).run Try.prog w = .ok v w := by kernel_rfl

theorem nm_Len (ao : Option Addr) (n c : Nat) (w : World) : Calls Try.prog 48 #[.slice ao n c] w fun e w' => e = .returned (.int .i64 n) ∧ w' = w := by
  go_enter Try.func48, Try.ntmps48
  go_wp2
  go_ret
  exact ⟨rfl, rfl⟩

set_option maxRecDepth 1000000 in
theorem nm_Less (g n c i j x y : Nat) (w : World) (hi : i < n) (hj : j < n) (ci : w.cell? ⟨g, i, none⟩ = some (.int .i64 x)) (cj : w.cell? ⟨g, j, none⟩ = some (.int .i64 y)) :
    Calls Try.prog 49 #[.slice (some ⟨g, 0, none⟩) n c, .int .i64 i, .int .i64 j] w fun e w' => e = .returned (.bool (decide (x < y))) ∧ ∃ q, w' = w.drewN q := by
  go_enter Try.func49, Try.ntmps49
  go_wp2
  go_quiet (fail)
  go_wp2
  go_ret
  exact ⟨rfl, nq, rfl⟩

set_option maxHeartbeats 2000000 in
set_option maxRecDepth 1000000 in
theorem nm_Swap (g n c i j x y : Nat) (w : World) (hi : i < n) (hj : j < n) (ci : w.cell? ⟨g, i, none⟩ = some (.int .i64 x)) (cj : w.cell? ⟨g, j, none⟩ = some (.int .i64 y)) (fi : w.frozen? ⟨g, i, none⟩ = false) (fj : w.frozen? ⟨g, j, none⟩ = false) :
    Calls Try.prog 50 #[.slice (some ⟨g, 0, none⟩) n c, .int .i64 i, .int .i64 j] w fun e w' => e = .returned (.tuple #[]) ∧ ∃ q, w' = ((w.setCell ⟨g, i, none⟩ (.int .i64 y)).setCell ⟨g, j, none⟩ (.int .i64 x)).drewN q := by
  have mixed : Try.prog.follows Departure.mixedOrders = true := by kernel_rfl
  obtain ⟨v', hy'⟩ := cell?_setCell_some (w := w) (p := ⟨g, i, none⟩) (x := .int .i64 y) (q := ⟨g, j, none⟩) cj
  go_enter Try.func50, Try.ntmps50
  go_wp2
  go_region_o
  all_goals (try go_wp2)
  all_goals go_end0
  all_goals exact ⟨rfl, 1, rfl⟩

set_option maxRecDepth 1000000 in
theorem nm_Pop (b g m c x : Nat) (w : World) (hm : m ≤ 2000000) (hc : m + 1 ≤ c) (h3 : w.cell? ⟨b, 3, none⟩ = some (.slice (some ⟨g, 0, none⟩) (m + 1) c)) (f3 : w.frozen? ⟨b, 3, none⟩ = false) (cx : (w.setCell ⟨b, 3, none⟩ (.slice (some ⟨g, 0, none⟩) m c)).cell? ⟨g, m, none⟩ = some (.int .i64 x)) :
    Calls Try.prog 51 #[.pointer (some ⟨b, 3, none⟩)] w fun e w' => e = .returned (.iface 3 (.int .i64 x)) ∧ w' = w.setCell ⟨b, 3, none⟩ (.slice (some ⟨g, 0, none⟩) m c) := by
  go_enter Try.func51, Try.ntmps51
  go_wp2
  go_ret
  exact ⟨rfl, rfl⟩

set_option maxHeartbeats 2000000 in
set_option maxRecDepth 1000000 in
theorem nm_Push (base b n x : Nat) (v : Value) (xs : List Value) (w : World) (hb : base ≤ w.heap.size) (hlt : b < w.heap.size) (hn : n ≤ 2000000) (hv : w.ownsRow base 3 1 v n xs) (h3 : w.cell? ⟨b, 3, none⟩ = some v) (f3 : w.frozen? ⟨b, 3, none⟩ = false) (hne : v.ownBlock ≠ some b) :
    Calls Try.prog 52 #[.pointer (some ⟨b, 3, none⟩), .iface 3 (.int .i64 x)] w fun e w' => e = .returned (.tuple #[]) ∧ ∃ v' w2, w' = w2.setCell ⟨b, 3, none⟩ v' ∧ w.grownBy w2 v.ownBlock ∧ w2.ownsRow base 3 1 v' (n + 1) (xs ++ [.int .i64 x]) := by
  have mixed : Try.prog.follows Departure.mixedOrders = true := by kernel_rfl
  have has := as_int (.int .i64 x)
  obtain ⟨i0, hi, hz0, hz1, hz2⟩ := info_parts Try.infoInt
  obtain ⟨W, hW⟩ : ∃ W, (w.alloc (.cells #[.int .i64 x] 3)).drew = W := ⟨_, rfl⟩
  have hMW : More w W := by rw [← hW]; exact (more_alloc w _).trans (More.drewN _ 1)
  have hszW : W.heap.size = w.heap.size + 1 := by rw [← hW]; show (w.alloc _).heap.size = _; simp
  have hcW : ∀ (j : Nat) u, [Value.int .i64 x][j]? = some u → W.cell? ((⟨w.heap.size, 0, none⟩ : Addr).add j) = some u := fun j u h => by rw [← hW]; exact one_cell w (.int .i64 x) 3 j u h
  obtain ⟨v', w2, hr, hown, hgr, _, _⟩ := run_append_own_at (P := Try.prog) W base 50 50 3 i0 (.int .i64 0) 1 8 Try.underlying50 hi hz0 hz1 hz2 rfl (by decide) v n xs (More.own hv hMW) ⟨w.heap.size, 0, none⟩ 1 1 [.int .i64 x] rfl hcW (by intro u hu; simp at hu; subst hu; rfl) (by unfold maxLen; omega) (by omega) (by omega)
  obtain ⟨ao', c', rfl⟩ := shape_any hown
  obtain ⟨ao, c, rfl⟩ := shape_any hv
  have h3 := (hMW.cell hlt).trans h3
  have hgw : w.grownBy w2 (Value.slice ao n c).ownBlock := ⟨hgr.os.trans hMW.os, hgr.tape.trans hMW.tape, hgr.output.trans hMW.output, Nat.le_trans hMW.size hgr.size, fun k hk hne => (hgr.block k (by omega) hne).trans (hMW.block k hk)⟩
  have hb2 := hgr.block b (by omega) (fun e => hne e.symm)
  have c2 : w2.cell? ⟨b, 3, none⟩ = some (.slice ao n c) := (World.cell?_of_block (a := ⟨b, 3, none⟩) hb2).trans h3
  have f2 : w2.frozen? ⟨b, 3, none⟩ = false := (World.frozen?_of_block (a := ⟨b, 3, none⟩) hb2).trans ((World.frozen?_of_block (a := ⟨b, 3, none⟩) (hMW.block b hlt)).trans f3)
  rw [← hW] at hr h3
  have H := Hid.mk (And.intro hgw hown)
  clear hgw hown hgr hb2 hMW hszW hcW hv hne hW
  go_enter Try.func52, Try.ntmps52
  go_wp2
  go_region_law_o (refine step_append_is rfl (.tmp 7) (.tmp 10) 50 rfl rfl rfl hr ?_)
  all_goals (try go_wp2)
  all_goals go_end0
  all_goals exact ⟨rfl, _, w2, rfl, H.out.1, H.out.2⟩
end Go.Proofs.Ytpmgojnlbmiaeaa
