/-
  window's views: the n-grams as parts of the list, as a going over that may be left early.
-/
import Derived.Test.YtiiflegfbieblaaWinA
namespace Go.Proofs.Ytiiflegfbieblaa
open Go.RowKit Go.Shelf
attribute [local go_sem] Oper.semAt_some

/-- A slice has room for what it has. -/
def Cap (v : Value) : Prop := ∀ ao n c, v = .slice ao n c → n ≤ c
theorem Cap.le {ao : Option Addr} {n c : Nat} (h : Cap (.slice ao n c)) : n ≤ c := h _ _ _ rfl
theorem Cap.of {ao : Option Addr} {n c : Nat} (h : n ≤ c) : Cap (.slice ao n c) := fun _ _ _ e => by obtain ⟨_, rfl, rfl⟩ := Value.slice.inj e; exact h
theorem NL.cap {w : World} {B : Nat} {v : Value} {l : List Int} (h : NL w B v l) : Cap v := by
  rcases h.2 with ⟨rfl, _⟩ | ⟨g, cap, cur, rfl, h1, h2, h3, _⟩
  · exact Cap.of (Nat.le_refl _)
  · exact Cap.of h3

/-- A slice as it came in: nil, or somewhere. -/
def Src (a : Value) (k : Nat) : Prop := (a = .slice none 0 0 ∧ k = 0) ∨ ∃ ad c, a = .slice (some ad) k c

theorem views_call (n : Nat) (ao : Option Addr) (k cap : Nat) (m : Int) (w : World) : CallsIn Fence.wide n Try.prog 39 #[.slice ao k cap, .int .i64 m] w fun e w' => e = .returned (.func (.func 63) #[] #[.pointer (some ⟨w.heap.size + 1, 0, none⟩), .pointer (some ⟨w.heap.size, 0, none⟩)]) ∧ w' = (w.alloc (.cells #[.slice ao k cap] 30)).alloc (.cells #[.int .i64 m] 3) := by
  refine callsIn_of_wp Try.func39 rfl trivial ?_ rfl
  simp only [Try.ntmps39, List.size_toArray, List.length_cons, List.length_nil, Nat.reduceAdd, Nat.reduceSub, Array.replicate_succ, Array.replicate_zero, List.push_toArray, List.append_toArray, List.nil_append, List.cons_append]
  gi_wp2
  go_ret
  exact ⟨rfl, rfl⟩

/-- The part of a slice from place c on, n long. -/
def vwOf (ao : Option Addr) (n cap c : Nat) : Value := .slice (ao.map fun a => ⟨a.block, a.off + c, none⟩) n (cap - c)
abbrev encV (ao : Option Addr) (n cap : Nat) (c : Nat) : Array Value := #[.int .i64 c, vwOf ao n cap c]
/-- What the going over reads: the list and the number. -/
def VwK (Bn Bp : Nat) (ao : Option Addr) (k cap : Nat) (m : Int) (A : World) : Prop := Boxed A Bp 30 (.slice ao k cap) ∧ Boxed A Bn 3 (.int .i64 m)

set_option maxRecDepth 1000000 in
set_option maxHeartbeats 4000000 in
theorem views_in (n : Nat) (hn : 1 ≤ n) (Bn Bp lo : Nat) (ao : Option Addr) (k cap : Nat) (m : Int) (hm : m ≤ 9223372036854775807) (hk : k ≤ 1000000) (hcap : k ≤ cap) (hao : 0 < k → ∃ b o, ao = some ⟨b, o, none⟩) (w : World) :
    SeqSet Fence.wide n Try.prog 63 #[.pointer (some ⟨Bn, 0, none⟩), .pointer (some ⟨Bp, 0, none⟩)] (encV ao m.toNat cap) lo (VwK Bn Bp ao k cap m) (fun xs => xs = List.range (cn k m)) (fun pre => ∃ c, c ≤ cn k m ∧ pre = List.range c) (cn k m) w := by
  intro l2 J Jx W C0 hW hC0 hlo hJ hJx hKp hY h0
  obtain ⟨bp, bn⟩ := hKp _ _ _ h0
  have cp := bp.cell
  have cnn := bn.cell
  by_cases h1 : m < 1
  · have HC := Hid.mk (cn_low (k := k) h1)
    have HJ := Hid.mk h0
    generalize cn k m = K at *
    clear bp bn hY h0 hao
    refine callsIn_of_wp Try.func63 rfl trivial ?_ rfl
    simp only [Try.ntmps63, List.size_toArray, List.length_cons, List.length_nil, Nat.reduceAdd, Nat.reduceSub, Array.replicate_succ, Array.replicate_zero, List.push_toArray, List.append_toArray, List.nil_append, List.cons_append]
    gi_wp2
    refine bodyPost_ret (results_none rfl _ _ _) rfl ?_
    exact ⟨⟨_, rfl⟩, .inl ⟨[], C0, by rw [HC.out]; rfl, HJ.out, hC0⟩⟩
  · obtain ⟨M, rfl⟩ : ∃ M : Nat, m = M := ⟨m.toNat, by omega⟩
    have hM1 : (1 : Int) ≤ (M : Int) := by omega
    have HM := Hid.mk (fun c : Nat => And.intro (cn_more (k := k) (i := c) hM1) (fun h : c < cn k M => (cn_fit h).2.1))
    have HK0 := Hid.mk (cn_of (k := k) hM1)
    rw [Int.toNat_natCast] at *
    generalize cn k (M : Int) = K at *
    clear bp bn
    refine callsIn_of_wp Try.func63 rfl trivial ?_ rfl
    simp only [Try.ntmps63, List.size_toArray, List.length_cons, List.length_nil, Nat.reduceAdd, Nat.reduceSub, Array.replicate_succ, Array.replicate_zero, List.push_toArray, List.append_toArray, List.nil_append, List.cons_append]
    gi_wp2
    clear cp cnn
    gi_loopw [12] (fun i wr => ∃ (c : Nat) (C : Nat → Prop), c ≤ K ∧ i = .int .i64 c ∧ J (List.range c) C wr ∧ Within C wr ∧ W.heap.size ≤ wr.heap.size)
      (fun i _ => K - (intOf i).toNat)
    case atStart => exact ⟨0, C0, by omega, rfl, h0, hC0, Nat.le_refl _⟩
    case round =>
      obtain ⟨c, C, hcK, rfl, hJs, hWi, hsW⟩ := hrel
      clear h0
      by_cases hlt : c < K
      · have h2 : (c : Int) < (k : Int) - (M : Int) + 1 := (HM.out c).1.2 hlt
        have h3 : c + M ≤ k := by have := (HM.out c).2 hlt; simpa using this
        obtain ⟨b, o, rfl⟩ := hao (by omega)
        have cp := (hKp _ _ _ hJs).1.cell
        have cnn := (hKp _ _ _ hJs).2.cell
        have hne : ¬ cap = c := by omega
        have h4 : (c : Int) + (M : Int) ≤ (cap : Int) := by omega
        obtain ⟨fn, tmps, assign, body, hy, hRd⟩ := hY (List.range c) c wr C ⟨c + 1, by omega, List.range_succ.symm⟩ hJs hWi hsW (by rw [List.length_range]; exact hlt)
        dsimp only [encV, vwOf, Option.map_some] at hy
        have HJ := Hid.mk hJs
        have HS := Hid.mk (@List.range_succ c)
        clear hJs hY
        gi_wp2
        refine hRd.mono ?_
        clear hRd hy
        rintro e W3 ⟨C', (⟨rfl, hJ3, ho3⟩ | ⟨rfl, hJ3, ho3⟩)⟩
        · have HO := Hid.mk (And.intro (show J (List.range (c + 1)) C' W3 by rw [HS.out]; exact hJ3) (And.intro (ho3.within hWi) (Nat.le_trans hsW ho3.size)))
          clear hJ3 ho3
          gi_wp2
          go_roundw
          case rel => exact ⟨c + 1, C', by omega, by go_num, HO.out.1, HO.out.2.1, HO.out.2.2⟩
          case measure => first | (simp [intOf]; done) | (simp [intOf]; omega)
        · have HO := Hid.mk (And.intro (show Jx (List.range (c + 1)) C' W3 by rw [HS.out]; exact hJ3) (ho3.within hWi))
          clear hJ3 ho3
          gi_wp2
          refine bodyPost_ret (results_none rfl _ _ _) rfl ?_
          exact ⟨⟨_, rfl⟩, .inr ⟨_, C', ⟨c + 1, by omega, rfl⟩, HO.out.1, HO.out.2⟩⟩
      · have h2 : ¬ (c : Int) < (k : Int) - (M : Int) + 1 := fun h => hlt ((HM.out c).1.1 h)
        obtain rfl : c = K := by omega
        have HJ := Hid.mk hJs
        clear hJs hY
        gi_wp2
        go_end0
        exact ⟨⟨_, rfl⟩, .inl ⟨C, HJ.out, hWi⟩⟩
end Go.Proofs.Ytiiflegfbieblaa
