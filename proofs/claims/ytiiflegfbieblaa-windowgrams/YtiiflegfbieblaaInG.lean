/-
  intern: All, as a going over that may be left early, and gone over again; the document's Put (over TokL's numL).
-/
import Derived.Test.YtiiflegfbieblaaInF
import Derived.Test.YtiiflegfbieblaaTokL
namespace Go.Proofs.Ytiiflegfbieblaa
open Go.RowKit Go.Shelf
attribute [local go_sem] Oper.semAt_some

theorem all_call (n : Nat) (p : Option Addr) (w : World) : CallsIn Fence.wide n Try.prog 48 #[.pointer p] w fun e w' => e = .returned (.func (.func 65) #[] #[.pointer (some ⟨w.heap.size, 0, none⟩)]) ∧ w' = w.alloc (.cells #[.pointer p] 58) := by
  refine callsIn_of_wp Try.func48 rfl trivial ?_ rfl
  simp only [Try.ntmps48, List.size_toArray, List.length_cons, List.length_nil, Nat.reduceAdd, Nat.reduceSub, Array.replicate_succ, Array.replicate_zero, List.push_toArray, List.append_toArray, List.nil_append, List.cons_append]
  gi_wp2
  go_ret
  exact ⟨rfl, rfl⟩

theorem numL_next {L : List (List UInt8)} {c : Nat} {pre : List (Int × List UInt8)} {x : Int × List UInt8} (h : pre ++ [x] = numL L c) : pre = numL L pre.length ∧ x = ((pre.length : Int), L.getD pre.length []) ∧ pre.length + 1 = c := by
  have hl := congrArg List.length h
  rw [numL_len, List.length_append, List.length_singleton] at hl
  rw [← hl, numL_succ] at h
  obtain ⟨h1, h2⟩ := List.append_inj' h rfl
  exact ⟨h1, by simpa using h2, hl⟩
/-- What the going over reads of the caller's. -/
def AllK (Bt b : Nat) (vk : Value) (ts : List (List UInt8)) (A : World) : Prop := Boxed A Bt 58 (.pointer (some ⟨b, 0, none⟩)) ∧ A.cell? ⟨b, 0, none⟩ = some vk ∧ SRd A vk ts

set_option maxRecDepth 1000000 in
set_option maxHeartbeats 4000000 in
theorem all_in (n : Nat) (hn : 1 ≤ n) (Bt b lo : Nat) (vk : Value) (ts : List (List UInt8)) (hts : ts.length ≤ 1000000) (w : World) :
    SeqSet Fence.wide n Try.prog 65 #[.pointer (some ⟨Bt, 0, none⟩)] encL lo (AllK Bt b vk ts) (fun xs => xs = numL ts ts.length) (fun pre => ∃ c, c ≤ ts.length ∧ pre = numL ts c) ts.length w := by
  intro l2 J Jx W C0 hW hC0 hlo hJ hJx hKp hY h0
  obtain ⟨hb1, hc1, hs1⟩ := hKp _ _ _ h0
  obtain ⟨a, c, rfl⟩ := hs1.shape
  obtain ⟨N, hN⟩ : ∃ N, ts.length = N := ⟨_, rfl⟩
  have cb := hb1.cell
  rw [hN] at hc1 hY hts ⊢
  have HN := Hid.mk hN
  clear hN hs1 hb1
  refine callsIn_of_wp Try.func65 rfl trivial ?_ rfl
  simp only [Try.ntmps65, List.size_toArray, List.length_cons, List.length_nil, Nat.reduceAdd, Nat.reduceSub, Array.replicate_succ, Array.replicate_zero, List.push_toArray, List.append_toArray, List.nil_append, List.cons_append]
  gi_wp2
  clear cb hc1
  gi_loopw [13] (fun i wr => ∃ (c : Nat) (C : Nat → Prop), c ≤ N ∧ i = .int .i64 c ∧ J (numL ts c) C wr ∧ Within C wr ∧ W.heap.size ≤ wr.heap.size)
    (fun i _ => N - (intOf i).toNat)
  case atStart => exact ⟨0, C0, by omega, rfl, h0, hC0, Nat.le_refl _⟩
  case round =>
    obtain ⟨c, C, hcm, rfl, hJs, hWi, hsW⟩ := hrel
    clear h0
    by_cases hlt : c < N
    · have hs := (hKp _ _ _ hJs).2.2
      rcases hs.form with ⟨h1, h2⟩ | ⟨g, cap, h1, _, h2⟩
      · have := HN.out; rw [h1] at this; simp at this; omega
      simp only [Value.slice.injEq] at h1
      obtain ⟨rfl, _, rfl⟩ := h1
      have cK := h2 c (by rw [HN.out]; exact hlt)
      obtain ⟨fn, tmps, assign, body, hy, hRd⟩ := hY (numL ts c) ((c : Int), ts.getD c []) wr C ⟨c + 1, by omega, (numL_succ ts c).symm⟩ hJs hWi hsW (by rw [numL_len]; exact hlt)
      dsimp only [encL] at hy
      have HJ := Hid.mk hJs
      have HS := Hid.mk (numL_succ ts c)
      obtain ⟨x, hx⟩ : ∃ x, ts.getD c [] = x := ⟨_, rfl⟩
      rw [hx] at cK hy hRd HS
      clear hJs hY hx h2 hs
      gi_wp2
      refine hRd.mono ?_
      clear hRd hy
      rintro e W3 ⟨C', (⟨rfl, hJ3, ho3⟩ | ⟨rfl, hJ3, ho3⟩)⟩
      · have HO := Hid.mk (And.intro (show J (numL ts (c + 1)) C' W3 by rw [HS.out]; exact hJ3) (And.intro (ho3.within hWi) (Nat.le_trans hsW ho3.size)))
        clear hJ3 ho3
        gi_wp2
        go_roundw
        case rel => exact ⟨c + 1, C', by omega, by go_num, HO.out.1, HO.out.2.1, HO.out.2.2⟩
        case measure => first | (simp [intOf]; done) | (simp [intOf]; omega)
      · have HO := Hid.mk (And.intro (show Jx (numL ts (c + 1)) C' W3 by rw [HS.out]; exact hJ3) (ho3.within hWi))
        clear hJ3 ho3
        gi_wp2
        refine bodyPost_ret (results_none rfl _ _ _) rfl ?_
        exact ⟨⟨_, rfl⟩, .inr ⟨_, C', ⟨c + 1, by omega, rfl⟩, HO.out.1, HO.out.2⟩⟩
    · obtain rfl : c = N := by omega
      have HJ := Hid.mk hJs
      clear hJs hY
      gi_wp2
      go_end0
      exact ⟨⟨_, rfl⟩, .inl ⟨_, C, rfl, HJ.out, hWi⟩⟩

theorem wpList_of_step {P : Program} {ops : Array Oper} {rest : List Oper} {o : Oper} {a : Act} {w : World} {Q : Exit → Act → World → Prop} (hgd : o.guard = none)
    (h : ∀ K : Act → World → Prop, (∀ a' w', wpList P ops Q rest a' w' → K a' w') → if Region.wanted o (yielded ops a.tmps) = true then Oper.wp P o a w K Q else True) : wpList P ops Q (o :: rest) a w :=
  wpList_plain hgd fun K hK => by
    have := h K hK
    rw [if_pos (by simp [Region.wanted, hgd])] at this
    exact this

theorem told1 : told [] [97] = .tuple #[.int .i64 0, .bool true] := by unfold told; rw [put_tells, if_neg (by decide)]; rfl
theorem told2 : told [[97]] [98] = .tuple #[.int .i64 1, .bool true] := by unfold told; rw [put_tells, if_neg (by decide)]; rfl
theorem told3 : told [[97], [98]] [97] = .tuple #[.int .i64 0, .bool false] := by
  unfold told
  rw [put_tells, if_pos (by decide), show fnd [[97], [98]] [97] = ((0 : Nat) : Int) from fnd_first (i := 0) (by decide) rfl (fun j hj => by omega)]
  rfl
theorem put1 : putN [] [97] = [[97]] := rfl
theorem put2 : putN [[97]] [98] = [[97], [98]] := by rw [putN_new (by decide)]; rfl
theorem put3 : putN [[97], [98]] [97] = [[97], [98]] := putN_in (by decide)
theorem sl2 : slN ([[97], [98]] : List (List UInt8)).length = 8 := by decide

end Go.Proofs.Ytiiflegfbieblaa
