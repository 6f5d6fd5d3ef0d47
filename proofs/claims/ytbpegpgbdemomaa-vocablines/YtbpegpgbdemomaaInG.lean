/-
  intern: All, as a going over that may be left early, and gone over again; the document's Put (over TokL's numL).
-/
import Derived.Test.YtbpegpgbdemomaaInF
import Derived.Test.YtbpegpgbdemomaaTokL
namespace Go.Proofs.Ytbpegpgbdemomaa
open Go.RowKit Go.Shelf
attribute [local go_sem] Oper.semAt_some

theorem all_call (n : Nat) (p : Option Addr) (w : World) : CallsIn Fence.wide n Try.prog 38 #[.pointer p] w fun e w' => e = .returned (.func (.func 55) #[] #[.pointer (some ⟨w.heap.size, 0, none⟩)]) ∧ w' = w.alloc (.cells #[.pointer p] 53) := by
  refine callsIn_of_wp Try.func38 rfl trivial ?_ rfl
  simp only [Try.ntmps38, List.size_toArray, List.length_cons, List.length_nil, Nat.reduceAdd, Nat.reduceSub, Array.replicate_succ, Array.replicate_zero, List.push_toArray, List.append_toArray, List.nil_append, List.cons_append]
  gi_wp2
  go_ret
  exact ⟨rfl, rfl⟩

theorem numL_next {L : List (List UInt8)} {c : Nat} {pre : List (Int × List UInt8)} {x : Int × List UInt8} (h : pre ++ [x] = numL L c) : pre = numL L pre.length ∧ x = ((pre.length : Int), L.getD pre.length []) ∧ pre.length + 1 = c := by
  have hl := congrArg List.length h
  rw [numL_len, List.length_append, List.length_singleton] at hl
  rw [← hl, numL_succ] at h
  obtain ⟨h1, h2⟩ := List.append_inj' h rfl
  exact ⟨h1, by simpa using h2, hl⟩
/-- What the going over reads of the caller's. -/
def AllK (Bt b : Nat) (vk : Value) (ts : List (List UInt8)) (A : World) : Prop := Boxed A Bt 53 (.pointer (some ⟨b, 0, none⟩)) ∧ A.cell? ⟨b, 0, none⟩ = some vk ∧ SRd A vk ts

set_option maxRecDepth 1000000 in
set_option maxHeartbeats 4000000 in
theorem all_in (n : Nat) (hn : 1 ≤ n) (Bt b lo : Nat) (vk : Value) (ts : List (List UInt8)) (hts : ts.length ≤ 1000000) (w : World) :
    SeqSet Fence.wide n Try.prog 55 #[.pointer (some ⟨Bt, 0, none⟩)] encL lo (AllK Bt b vk ts) (fun xs => xs = numL ts ts.length) (fun pre => ∃ c, c ≤ ts.length ∧ pre = numL ts c) ts.length w := by
  intro l2 J Jx W C0 hW hC0 hlo hJ hJx hKp hY h0
  obtain ⟨hb1, hc1, hs1⟩ := hKp _ _ _ h0
  obtain ⟨a, c, rfl⟩ := hs1.shape
  obtain ⟨N, hN⟩ : ∃ N, ts.length = N := ⟨_, rfl⟩
  have cb := hb1.cell
  rw [hN] at hc1 hY hts ⊢
  have HN := Hid.mk hN
  clear hN hs1 hb1
  refine callsIn_of_wp Try.func55 rfl trivial ?_ rfl
  simp only [Try.ntmps55, List.size_toArray, List.length_cons, List.length_nil, Nat.reduceAdd, Nat.reduceSub, Array.replicate_succ, Array.replicate_zero, List.push_toArray, List.append_toArray, List.nil_append, List.cons_append]
  gi_wp2
  clear cb hc1
  gi_loopw [13] (fun i wr => ∃ (c : Nat) (C : Nat → Prop), c ≤ N ∧ i = .int .i64 c ∧ J (numL ts c) C wr ∧ Within C wr ∧ W.heap.size ≤ wr.heap.size)
    (fun i _ => N - (intOf i).toNat)
  case atStart => exact ⟨0, C0, by omega, rfl, h0, hC0, Nat.le_refl _⟩
  case round =>
    obtain ⟨c, C, hcm, rfl, hJs, hWi, hsW⟩ := hrel
    clear h0
    by_cases hlt : c < N
    · have hs := (hKp _ _ _ hJs).2.2
      rcases hs.form with ⟨h1, h2⟩ | ⟨g, cap, h1, _, h2⟩
      · have := HN.out; rw [h1] at this; simp at this; omega
      simp only [Value.slice.injEq] at h1
      obtain ⟨rfl, _, rfl⟩ := h1
      have cK := h2 c (by rw [HN.out]; exact hlt)
      obtain ⟨fn, tmps, assign, body, hy, hRd⟩ := hY (numL ts c) ((c : Int), ts.getD c []) wr C ⟨c + 1, by omega, (numL_succ ts c).symm⟩ hJs hWi hsW (by rw [numL_len]; exact hlt)
      dsimp only [encL] at hy
      have HJ := Hid.mk hJs
      have HS := Hid.mk (numL_succ ts c)
      obtain ⟨x, hx⟩ : ∃ x, ts.getD c [] = x := ⟨_, rfl⟩
      rw [hx] at cK hy hRd HS
      clear hJs hY hx h2 hs
      gi_wp2
      refine hRd.mono ?_
      clear hRd hy
      rintro e W3 ⟨C', (⟨rfl, hJ3, ho3⟩ | ⟨rfl, hJ3, ho3⟩)⟩
      · have HO := Hid.mk (And.intro (show J (numL ts (c + 1)) C' W3 by rw [HS.out]; exact hJ3) (And.intro (ho3.within hWi) (Nat.le_trans hsW ho3.size)))
        clear hJ3 ho3
        gi_wp2
        go_roundw
        case rel => exact ⟨c + 1, C', by omega, by go_num, HO.out.1, HO.out.2.1, HO.out.2.2⟩
        case measure => first | (simp [intOf]; done) | (simp [intOf]; omega)
      · have HO := Hid.mk (And.intro (show Jx (numL ts (c + 1)) C' W3 by rw [HS.out]; exact hJ3) (ho3.within hWi))
        clear hJ3 ho3
        gi_wp2
        refine bodyPost_ret (results_none rfl _ _ _) rfl ?_
        exact ⟨⟨_, rfl⟩, .inr ⟨_, C', ⟨c + 1, by omega, rfl⟩, HO.out.1, HO.out.2⟩⟩
    · obtain rfl : c = N := by omega
      have HJ := Hid.mk hJs
      clear hJs hY
      gi_wp2
      go_end0
      exact ⟨⟨_, rfl⟩, .inl ⟨_, C, rfl, HJ.out, hWi⟩⟩

theorem wpList_of_step {P : Program} {ops : Array Oper} {rest : List Oper} {o : Oper} {a : Act} {w : World} {Q : Exit → Act → World → Prop} (hgd : o.guard = none)
    (h : ∀ K : Act → World → Prop, (∀ a' w', wpList P ops Q rest a' w' → K a' w') → if Region.wanted o (yielded ops a.tmps) = true then Oper.wp P o a w K Q else True) : wpList P ops Q (o :: rest) a w :=
  wpList_plain hgd fun K hK => by
    have := h K hK
    rw [if_pos (by simp [Region.wanted, hgd])] at this
    exact this

set_option maxRecDepth 1000000 in
set_option maxHeartbeats 4000000 in
theorem rf_put (v : Value) (ts : List (List UInt8)) (s : List UInt8) (w : World) (h : SRd w v ts) (hn : ts.length ≤ 1000000) :
    Calls Try.prog 24 #[v, .string (bs s)] w fun e w' => ∃ v', e = .returned v' ∧ SRd w' v' (putN ts s) ∧ More w w' ∧ ∀ j, v'.ownBlock = some j → v.ownBlock = some j ∨ w.heap.size ≤ j := by
  have hfd := rf_find v ts s w h.ard (by omega)
  have HS := Hid.mk h
  by_cases hm : s ∈ ts
  · have hp := putN_in hm
    have hge : 0 ≤ fnd ts s := by rw [fnd_some hm]; omega
    obtain ⟨F, hF⟩ : ∃ F, fnd ts s = F := ⟨_, rfl⟩
    rw [hF] at hfd hge
    rw [hp]
    clear hp hm hF h
    go_enter Try.func24, Try.ntmps24
    go_wp2_with (go_at_call 18; refine hfd.mono ?_; rintro e w' ⟨rfl, hw'⟩; subst w')
    go_ret
    exact ⟨_, rfl, HS.out, More.refl _, fun j hj => .inl hj⟩
  · have hp := putN_new hm
    rw [fnd_none hm] at hfd
    rw [hp]
    obtain ⟨i0, hi, hz0, hz1, hz2⟩ := info_parts Try.infoStr
    obtain ⟨B0, hB0⟩ := HS.out
    have hsrc := src_of hB0
    obtain ⟨n, hN⟩ : ∃ n, ts.length = n := ⟨_, rfl⟩
    have HO := Hid.mk (And.intro hB0 (And.intro (strs_snoc ts s) hN))
    rw [hN] at hn hsrc
    have hsl := strs_len ts
    rw [hN] at hsl
    have HL := Hid.mk hsl
    have hsrc2 : ∀ o, (v = .slice none 0 0 ∧ n = 0) ∨ ∃ ad c, v = .slice (some ad) n c ∧ ∀ j u, (strs ts)[j]? = some u → (w.alloc o).cell? (ad.add j) = some u := fun o => hsrc.imp id fun ⟨ad, c, h1, h2⟩ => ⟨ad, c, h1, fun j u hj => ((more_alloc w o).cell (World.block_lt_of_cell? _ _ (h2 j u hj))).trans (h2 j u hj)⟩
    have HR := Hid.mk hsrc2
    have hcE := Hid.mk (heap_alloc_new w (.cells #[] 9))
    clear hp hm h hB0 hN hsrc hsl hsrc2
    go_enter Try.func24, Try.ntmps24
    go_wp2_with (first
      | (go_at_call 18; refine hfd.mono ?_; rintro e w' ⟨rfl, hw'⟩; subst w')
      | (at_builtin; refine wpList_of_step rfl (fun K hK => step_append_from (by rfl) (.tmp 10) (.tmp 11) 22 (by rfl) w.heap.size 9 i0 (.string ⟨#[]⟩) 1 16 Try.underlying22 hi hz0 hz1 hz2 rfl (by decide) (.slice (some ⟨w.heap.size, 0, none⟩) 0 0) 0 [] rfl (own_empty (Nat.le_refl _) hcE.out) v n (strs ts) rfl (by rw [HL.out, Nat.mul_one]) (HR.out _) (strs_one ts) (by unfold maxLen; omega) (by omega) (by simp) ?_); intro v1 w1 hown1 hg1; refine hK _ _ ?_; have H1 := Hid.mk (And.intro hown1 hg1); clear hown1 hg1 hK K)
      | (at_builtin; refine wpList_append_own_at _ rfl (.tmp 12) (.tmp 14) 22 rfl w.heap.size 9 i0 (.string ⟨#[]⟩) 1 16 Try.underlying22 hi hz0 hz1 hz2 rfl (by decide) _ _ _ rfl (H1.out.1.alloc _) ⟨w1.heap.size, 0, none⟩ 1 1 [.string (bs s)] rfl rfl (one_cell _ _ _) (one_str _) ?c3 ?c4 ?c5 ?_))
    case c3 => unfold maxLen; omega
    case c4 => omega
    case c5 => have := H1.out.2.size; simp at this ⊢; omega
    intro v2 w2 hown2 hg2 _ _
    have hm1 : More w w1 := (more_alloc w (.cells #[] 9)).grown H1.out.2 (by simp) (fun k hk => Nat.le_of_eq (by simpa [Value.ownBlock] using hk))
    have hm2 : More w w2 := (More.trans hm1 (more_alloc w1 (.cells #[.string (bs s)] 9))).grown hg2 (by have := hm1.size; simp; omega) (fun k hk => (H1.out.1.lt k hk).1)
    have hlt := hown2.lt
    have hrd : SRd w2 v2 (ts ++ [s]) := ⟨w.heap.size, by
      rw [HO.out.2.1, List.length_append, List.length_singleton, HO.out.2.2]
      simpa using hown2⟩
    have H2 := Hid.mk (And.intro hrd (And.intro hm2 hlt))
    clear hrd hm1 hm2 hlt hown2 hg2 hfd
    go_wp2
    go_ret
    exact ⟨_, rfl, H2.out.1, H2.out.2.1, fun j hj => .inr (H2.out.2.2 j hj).1⟩

theorem told1 : told [] [97] = .tuple #[.int .i64 0, .bool true] := by unfold told; rw [put_tells, if_neg (by decide)]; rfl
theorem told2 : told [[97]] [98] = .tuple #[.int .i64 1, .bool true] := by unfold told; rw [put_tells, if_neg (by decide)]; rfl
theorem told3 : told [[97], [98]] [97] = .tuple #[.int .i64 0, .bool false] := by
  unfold told
  rw [put_tells, if_pos (by decide), show fnd [[97], [98]] [97] = ((0 : Nat) : Int) from fnd_first (i := 0) (by decide) rfl (fun j hj => by omega)]
  rfl
theorem put1 : putN [] [97] = [[97]] := rfl
theorem put2 : putN [[97]] [98] = [[97], [98]] := by rw [putN_new (by decide)]; rfl
theorem put3 : putN [[97], [98]] [97] = [[97], [98]] := putN_in (by decide)
theorem sl2 : slN ([[97], [98]] : List (List UInt8)).length = 8 := by decide

end Go.Proofs.Ytbpegpgbdemomaa
