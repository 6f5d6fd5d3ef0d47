/-
  token's Lines, as a going over that may be left early, and gone over again.
-/
import Derived.Test.YtiiflegfbieblaaTokG
import Derived.Test.YtiiflegfbieblaaRangeSet
namespace Go.Proofs.Ytiiflegfbieblaa
open Go.RowKit Go.Shelf
attribute [local go_sem] Oper.semAt_some

theorem lines_call (n : Nat) (l : List UInt8) (w : World) : CallsIn Fence.wide n Try.prog 59 #[.string (bs l)] w fun e w' => e = .returned (.func (.func 70) #[] #[.pointer (some ⟨w.heap.size, 0, none⟩)]) ∧ w' = w.alloc (.cells #[.string (bs l)] 9) := by
  refine callsIn_of_wp Try.func59 rfl trivial ?_ rfl
  simp only [Try.ntmps59, List.size_toArray, List.length_cons, List.length_nil, Nat.reduceAdd, Nat.reduceSub, Array.replicate_succ, Array.replicate_zero, List.push_toArray, List.append_toArray, List.nil_append, List.cons_append]
  gi_wp2
  go_ret
  exact ⟨rfl, rfl⟩

/-- The first k lines, each with its number. -/
def numL (L : List (List UInt8)) (k : Nat) : List (Int × List UInt8) := (List.range k).map fun (j : Nat) => ((j : Int), L.getD j [])
theorem numL_succ (L : List (List UInt8)) (k : Nat) : numL L (k + 1) = numL L k ++ [((k : Int), L.getD k [])] := by simp [numL, List.range_succ]
theorem numL_len (L : List (List UInt8)) (k : Nat) : (numL L k).length = k := by simp [numL]
abbrev encL (p : Int × List UInt8) : Array Value := #[.int .i64 p.1, .string (bs p.2)]
theorem getD_at {L : List (List UInt8)} {pre suf : List (List UInt8)} {x : List UInt8} (h : pre ++ x :: suf = L) : L.getD pre.length [] = x := by
  rw [← h, List.getD_eq_getElem?_getD, List.getElem?_append_right (Nat.le_refl _)]; simp
/-- A line's end parts a text. -/
theorem lns_some {l : List UInt8} {k : Nat} (h : nl l = k) : lns [] l = l.take k :: lns [] (l.drop (k + 1)) := by
  obtain ⟨_, h2, h3⟩ := nl_some h
  have h4 := lns_at (l.take k) [] (l.drop (k + 1)) h2
  rw [← h3, List.nil_append] at h4
  exact h4
theorem lns_none {l : List UInt8} (h : nl l = -1) : lns [] l = [l] := by
  have := lns_free l [] (nl_none h)
  simpa using this

set_option maxRecDepth 1000000 in
set_option maxHeartbeats 4000000 in
theorem lines_in (n : Nat) (hn : 1 ≤ n) (Bs lo : Nat) (l : List UInt8) (hl : l.length ≤ 1000000) (w : World) :
    SeqSet Fence.wide n Try.prog 70 #[.pointer (some ⟨Bs, 0, none⟩)] encL lo (fun A => Boxed A Bs 9 (.string (bs l))) (fun xs => xs = numL (lns [] l) (lns [] l).length) (fun pre => ∃ c, c ≤ (lns [] l).length ∧ pre = numL (lns [] l) c) (lns [] l).length w := by
  intro l2 J Jx W C0 hW hC0 hlo hJ hJx hKp hY h0
  have hbx := hKp _ _ _ h0
  have cb := hbx.cell
  obtain ⟨L, hL⟩ : ∃ L, lns [] l = L := ⟨_, rfl⟩
  rw [hL] at hY ⊢
  have hLl := (lns_len l []).2
  rw [hL] at hLl
  refine callsIn_of_wp Try.func70 rfl trivial ?_ rfl
  simp only [Try.ntmps70, List.size_toArray, List.length_cons, List.length_nil, Nat.reduceAdd, Nat.reduceSub, Array.replicate_succ, Array.replicate_zero, List.push_toArray, List.append_toArray, List.nil_append, List.cons_append]
  gi_wp2
  clear cb hbx
  gi_loopw [3, 4, 5] (fun r m k wr => ∃ (t : List UInt8) (pre : List (List UInt8)) (go : Bool) (C : Nat → Prop), r = .string (bs t) ∧ m = .bool go ∧ k = .int .i64 pre.length ∧ J (numL L pre.length) C wr ∧ Within C wr ∧ W.heap.size ≤ wr.heap.size ∧ t.length ≤ l.length ∧ ((go = true ∧ pre ++ lns [] t = L) ∨ (go = false ∧ pre = L)))
    (fun _ _ k _ => l.length + 2 - (intOf k).toNat)
  case atStart => exact ⟨l, [], true, C0, rfl, rfl, rfl, h0, hC0, Nat.le_refl _, Nat.le_refl _, .inl ⟨rfl, hL⟩⟩
  case round =>
    obtain ⟨t, pre, go, C, rfl, rfl, rfl, hJs, hWi, hsW, htl, (⟨rfl, hpre⟩ | ⟨rfl, rfl⟩)⟩ := hrel
    · have HP := Hid.mk hpre
      clear hpre h0 hL
      by_cases hk1 : nl t = -1
      · have hk := hk1
        have hcut := fun w => scut_none t hk w
        have HQ := Hid.mk (show pre ++ t :: [] = L by have h := HP.out; rw [lns_none hk] at h; exact h)
        have hx0 := getD_at HQ.out
        have hyl : ([] : List UInt8).length ≤ l.length := by simp
        obtain ⟨K, hK⟩ : ∃ K, pre.length = K := ⟨_, rfl⟩
        rw [hK] at hJs hx0 ⊢
        have hKL : K + 1 ≤ L.length := by have h := congrArg List.length HQ.out; simp at h; omega
        have hSp : numL L K ++ [((K : Int), t)] = numL L (K + 1) := by rw [numL_succ, hx0]
        have HN := Hid.mk (And.intro (show (pre ++ [t]).length = K + 1 by simp [hK]) (And.intro hKL (And.intro hSp hyl)))
        have HJ := Hid.mk hJs
        clear hx0 hJs hK hSp hyl
        gi_wp2_with (refine ⟨trivial, ?_⟩; gi_at_call 71; refine (callsIn_wide.2 (hcut _)).mono ?_; rintro e w' ⟨rfl, m, hw'⟩; subst w'; obtain ⟨fn, tmps, assign, body, hy, hRd⟩ := hY (numL L K) ((K : Int), t) (wr.drewN m) C ⟨K + 1, hKL, HN.out.2.2.1⟩ (hJ _ _ _ _ HJ.out (Stay.of_more (More.drewN _ _) hWi)) (hWi.more (Nat.le_refl _)) hsW (by rw [numL_len]; omega); dsimp only [encL] at hy; clear hY)
        refine hRd.mono ?_
        clear hRd hy hcut
        rintro e W3 ⟨C', (⟨rfl, hJ3, ho3⟩ | ⟨rfl, hJ3, ho3⟩)⟩
        · have HO := Hid.mk (And.intro (show J (numL L (K + 1)) C' W3 by rw [← HN.out.2.2.1]; exact hJ3) (And.intro (ho3.within (hWi.more (Nat.le_refl _))) (Nat.le_trans hsW ho3.size)))
          clear hJ3 ho3
          gi_wp2
          go_roundw
          case rel => exact ⟨[], pre ++ [t], false, C', rfl, rfl, by rw [HN.out.1]; go_num, by rw [HN.out.1]; exact HO.out.1, HO.out.2.1, HO.out.2.2, HN.out.2.2.2, .inr ⟨rfl, HQ.out⟩⟩
          case measure => first | (simp [intOf]; done) | (simp [intOf]; omega)
        · have HO := Hid.mk (And.intro hJ3 (ho3.within (hWi.more (Nat.le_refl _))))
          clear hJ3 ho3
          gi_wp2
          refine bodyPost_ret (results_none rfl _ _ _) rfl ?_
          exact ⟨⟨_, rfl⟩, .inr ⟨_, C', ⟨K + 1, HN.out.2.1, HN.out.2.2.1⟩, HO.out.1, HO.out.2⟩⟩
      · obtain ⟨k, hk⟩ : ∃ k : Nat, nl t = k := ⟨(nl t).toNat, by have := nl_ge t; omega⟩
        clear hk1
        have hcut := fun w => scut_some t k hk (by omega) w
        have HQ := Hid.mk (show pre ++ t.take k :: lns [] (t.drop (k + 1)) = L by have h := HP.out; rw [lns_some hk] at h; exact h)
        have hx0 := getD_at HQ.out
        obtain ⟨x, hx⟩ : ∃ x, t.take k = x := ⟨_, rfl⟩
        obtain ⟨y, hy0⟩ : ∃ y, t.drop (k + 1) = y := ⟨_, rfl⟩
        have hyl : y.length ≤ l.length := by rw [← hy0, List.length_drop]; omega
        rw [hy0] at hcut HQ
        rw [hx] at hcut HQ hx0
        obtain ⟨K, hK⟩ : ∃ K, pre.length = K := ⟨_, rfl⟩
        rw [hK] at hJs hx0 ⊢
        have hKL : K + 1 ≤ L.length := by have h := congrArg List.length HQ.out; simp at h; omega
        have hSp : numL L K ++ [((K : Int), x)] = numL L (K + 1) := by rw [numL_succ, hx0]
        have HN := Hid.mk (And.intro (show (pre ++ [x]).length = K + 1 by simp [hK]) (And.intro hKL (And.intro hSp hyl)))
        have HJ := Hid.mk hJs
        clear hx hy0 hx0 hJs hK hSp hyl
        gi_wp2_with (refine ⟨trivial, ?_⟩; gi_at_call 71; refine (callsIn_wide.2 (hcut _)).mono ?_; rintro e w' ⟨rfl, m, hw'⟩; subst w'; obtain ⟨fn, tmps, assign, body, hy, hRd⟩ := hY (numL L K) ((K : Int), x) (wr.drewN m) C ⟨K + 1, hKL, HN.out.2.2.1⟩ (hJ _ _ _ _ HJ.out (Stay.of_more (More.drewN _ _) hWi)) (hWi.more (Nat.le_refl _)) hsW (by rw [numL_len]; omega); dsimp only [encL] at hy; clear hY)
        refine hRd.mono ?_
        clear hRd hy hcut
        rintro e W3 ⟨C', (⟨rfl, hJ3, ho3⟩ | ⟨rfl, hJ3, ho3⟩)⟩
        · have HO := Hid.mk (And.intro (show J (numL L (K + 1)) C' W3 by rw [← HN.out.2.2.1]; exact hJ3) (And.intro (ho3.within (hWi.more (Nat.le_refl _))) (Nat.le_trans hsW ho3.size)))
          clear hJ3 ho3
          gi_wp2
          go_roundw
          case rel => exact ⟨y, pre ++ [x], true, C', rfl, rfl, by rw [HN.out.1]; go_num, by rw [HN.out.1]; exact HO.out.1, HO.out.2.1, HO.out.2.2, HN.out.2.2.2, .inl ⟨rfl, by rw [List.append_assoc, List.singleton_append]; exact HQ.out⟩⟩
          case measure => first | (simp [intOf]; done) | (simp [intOf]; omega)
        · have HO := Hid.mk (And.intro hJ3 (ho3.within (hWi.more (Nat.le_refl _))))
          clear hJ3 ho3
          gi_wp2
          refine bodyPost_ret (results_none rfl _ _ _) rfl ?_
          exact ⟨⟨_, rfl⟩, .inr ⟨_, C', ⟨K + 1, HN.out.2.1, HN.out.2.2.1⟩, HO.out.1, HO.out.2⟩⟩
    · have HJ := Hid.mk hJs
      clear hJs hY h0 hL
      gi_wp2
      go_end0
      exact ⟨⟨_, rfl⟩, .inl ⟨_, C, rfl, HJ.out, hWi⟩⟩
end Go.Proofs.Ytiiflegfbieblaa
