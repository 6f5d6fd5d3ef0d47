/-
  The document's own answers for rankdir: Rank, Marks, Row.
-/
import Derived.Test.YtmnkbdkhpnokgaaDirRef
namespace Go.Proofs.Ytmnkbdkhpnokgaa
open Go.RowKit

theorem near_step (V k : Nat) (i : Int) : rk V (near i (k + 1)) = rk V (near i k) + (if (k : Int) < i ∧ V.testBit k = true then 1 else 0) := by
  by_cases h : (k : Int) < i
  · rw [show near i (k + 1) = k + 1 by unfold near; omega, show near i k = k by unfold near; omega, rk_succ]
    simp [h]
  · rw [show near i (k + 1) = near i k by unfold near; omega]
    simp [h]

theorem ref_rank (v : Value) (n V : Nat) (i : Int) (w : World) (h : BRd w v n V) (hV : V < 2 ^ n) (hn : n ≤ 1099511627776) :
    Calls Try.prog 13 #[v, .int .i64 i] w fun e w' => e = .returned (.int .i64 (rk V (near i n) : Nat)) ∧ w' = w := by
  obtain ⟨ao, cap, rfl⟩ := h.shape
  have hbit : ∀ k : Nat, Calls Try.prog 28 #[.slice ao n cap, .int .i64 k] w fun e w' => e = .returned (.bool (V.testBit k)) ∧ w' = w := fun k => by
    have := ref_bit _ n V k w h hV hn
    rwa [show bitI V k = V.testBit k by simp [bitI]] at this
  clear h
  go_enter Try.func13, Try.ntmps13
  go_wp2
  go_loop [6, 5] (fun c o => ∃ k O : Nat, k ≤ n ∧ c = .int .i64 k ∧ o = .int .i64 O ∧ O ≤ k ∧ Hid (O = rk V (near i k))) (fun c _ => n - (intOf c).toNat)
  case atStart => exact ⟨0, 0, Nat.zero_le _, rfl, rfl, Nat.zero_le _, Hid.mk (by simp [near, rk])⟩
  case round =>
    obtain ⟨k, O, hk, rfl, rfl, hO, HO⟩ := hrel
    have hst := near_step V k i
    rw [← HO.out] at hst
    by_cases hkn : k < n
    · by_cases hki : (k : Int) < i
      · have hbk := hbit k
        by_cases hb : V.testBit k = true
        · rw [hb] at hbk
          have HS : Hid (rk V (near i (k + 1)) = O + 1) := by rw [hst, if_pos ⟨hki, hb⟩]; exact Hid.mk rfl
          clear hst hb
          go_wp2_with (go_at_call 28; refine hbk.mono ?_; rintro e w' ⟨rfl, hw'⟩; subst w')
          refine ⟨⟨k + 1, O + 1, by omega, by go_num, by go_num, by omega, Hid.mk HS.out.symm⟩, by simp [intOf]; omega⟩
        · rw [show V.testBit k = false by simpa using hb] at hbk
          have HS : Hid (rk V (near i (k + 1)) = O) := by rw [hst, if_neg (fun h => hb h.2)]; exact Hid.mk rfl
          clear hst hb
          go_wp2_with (go_at_call 28; refine hbk.mono ?_; rintro e w' ⟨rfl, hw'⟩; subst w')
          refine ⟨⟨k + 1, O, by omega, by go_num, by go_num, by omega, Hid.mk HS.out.symm⟩, by simp [intOf]; omega⟩
      · have HS : Hid (rk V (near i (k + 1)) = O) := by rw [hst, if_neg (fun h => hki h.1)]; exact Hid.mk rfl
        clear hst
        go_wp2
        refine ⟨⟨k + 1, O, by omega, by go_num, by go_num, by omega, Hid.mk HS.out.symm⟩, by simp [intOf]; omega⟩
    · obtain rfl : k = n := by omega
      clear hst
      go_wp2
      go_ret
      exact ⟨by rw [← HO.out]; rfl, rfl⟩

set_option maxHeartbeats 800000 in
set_option maxRecDepth 1000000 in
theorem ref_marks (v : Value) (n V : Nat) (w : World) (h : BRd w v n V) (hV : V < 2 ^ n) (hn : n ≤ 1099511627776) :
    Calls Try.prog 15 #[v] w fun e w' => ∃ v', e = .returned v' ∧ w'.ownsRow w.heap.size 3 1 v' (nm n + 1) (ints (mk V n) (nm n + 1)) ∧ More w w' := by
  obtain ⟨i0, hi, hz0, hz1, hz2⟩ := info_parts Try.infoInt
  obtain ⟨ao, cap, rfl⟩ := h.shape
  have HH : Hid _ := And.intro h hV
  clear h hV
  go_enter Try.func15, Try.ntmps15
  go_wp2
  go_loopw [3, 4] (fun o c wr => ∃ k I : Nat, I < n + 512 ∧ c = .int .i64 I ∧ Hid (I = 512 * k) ∧ Hid (wr.ownsRow w.heap.size 3 1 o k (ints (fun i => rk V (512 * i)) k) ∧ Below w.heap.size w wr)) (fun _ c _ => n + 512 - (intOf c).toNat)
  case atStart => exact ⟨0, 0, by omega, rfl, Hid.mk rfl, Hid.mk ⟨World.ownsRow_nil _ _ _ _, Below.refl _ _⟩⟩
  case round =>
    obtain ⟨k, I, hI, rfl, HI, HR⟩ := hrel
    obtain ⟨am, cm, rfl⟩ := shape_of HR.out.1
    have hkb : k ≤ 2147483649 := by have := HI.out; omega
    by_cases hIn : I < n
    · have hrk := ref_rank (.slice ao n cap) n V I wr (HH.out.1.more HR.out.2) HH.out.2 hn
      rw [show near I n = I by unfold near; omega] at hrk
      obtain ⟨R, hR⟩ : ∃ R, rk V I = R := ⟨_, rfl⟩
      rw [hR] at hrk
      have hlist : Hid (ints (fun i => rk V (512 * i)) k ++ [.int .i64 (R : Int)] = ints (fun i => rk V (512 * i)) (k + 1)) := by
        rw [ints_succ, ← HI.out, hR]; exact Hid.mk rfl
      clear hR
      go_wp2_with (first
        | (go_at_call 13; refine hrk.mono ?_; rintro e w' ⟨rfl, hw'⟩; subst w')
        | (at_builtin; refine wpList_append_own _ rfl (.tmp 11) (.tmp 15) 38 rfl w.heap.size 3 i0 (.int .i64 0) 1 8 Try.underlying38 hi hz0 hz1 hz2 rfl (by decide) _ _ _ rfl (HR.out.1.alloc _) ⟨wr.heap.size, 0, none⟩ 1 1 [.int .i64 (R : Int)] rfl rfl ?c1 ?c2 ?c3 ?c4 ?c5 ?_))
      case c1 => exact one_cell _ _ _
      case c2 => exact one_i64 _
      case c3 => unfold maxLen; omega
      case c4 => omega
      case c5 => have := HR.out.2.size; simp; omega
      intro v' w2 hown2 hgrow2 _
      rw [hlist.out] at hown2
      have hbel2 : Below w.heap.size w w2 := (HR.out.2.alloc HR.out.2.size _).grown hgrow2 (by have := HR.out.2.size; simp; omega) (fun j hj => (HR.out.1.lt j hj).1)
      have HG : Hid _ := And.intro hown2 hbel2
      clear hown2 hbel2 hgrow2 HR
      go_wp2
      refine ⟨⟨k + 1, I + 512, by omega, by go_num, Hid.mk (by rw [HI.out]; omega), Hid.mk HG.out⟩, by simp [intOf]; omega⟩
    · have hk : k = nm n := by have := HI.out; unfold nm nw; omega
      subst hk
      have he : (wr.alloc (.cells #[] 3)).ownsRow w.heap.size 3 1 (.slice (some ⟨wr.heap.size, 0, none⟩) 0 0) 0 [] := World.ownsRow_lit wr #[] 0 HR.out.2.size (by decide) rfl
      have hke : Below w.heap.size w (wr.alloc (.cells #[] 3)) := HR.out.2.alloc HR.out.2.size (.cells #[] 3)
      have hsrc : ((Value.slice am (nm n) cm) = .slice none 0 0 ∧ nm n = 0) ∨ ∃ ad c, (Value.slice am (nm n) cm) = .slice (some ad) (nm n) c ∧ ∀ j u, (ints (fun i => rk V (512 * i)) (nm n))[j]? = some u → (wr.alloc (.cells #[] 3)).cell? (ad.add j) = some u := by
        have hown := HR.out.1
        rcases hown.2 with h | ⟨g, cap, cur, h, _, hg, _⟩
        · exact .inl h
        · rw [h] at hown ⊢
          refine .inr ⟨_, _, rfl, fun j u hu => ?_⟩
          have hj : j < nm n := by have := (List.getElem?_eq_some_iff.1 hu).1; simpa [ints_len] using this
          rw [Addr.add_lit, World.cell?_alloc_past _ _ _ (lt_of_block hg), Nat.zero_add, hown.cellAt j (by omega), hu]
      have HE : Hid _ := And.intro he (And.intro hsrc hke)
      obtain ⟨M, hM⟩ : ∃ M, nm n = M := ⟨_, rfl⟩
      have hall := mk_all V n
      rw [hM] at HE HR hall hkb ⊢
      obtain ⟨R, hR⟩ : ∃ R, rk V n = R := ⟨_, rfl⟩
      rw [hR] at hall
      have HA : Hid _ := And.intro hall (And.intro hM hR)
      clear he hke hsrc hall hM hR
      go_wp2_with (at_builtin; refine wpList_append_from _ rfl (.tmp 17) (.tmp 18) 38 rfl w.heap.size 3 i0 (.int .i64 0) 1 8 Try.underlying38 hi hz0 hz1 hz2 rfl (by decide) _ _ _ rfl HE.out.1 _ M (ints (fun i => rk V (512 * i)) M) rfl (by rw [ints_len, Nat.mul_one]) HE.out.2.1 (ints_one _ _) ?d3 ?d4 ?d5 ?_)
      case d3 => unfold maxLen; omega
      case d4 => omega
      case d5 => have := HR.out.2.size; simp; omega
      intro v0 w1 hown0 hgrow0
      have hbel0 : Below w.heap.size w w1 := HE.out.2.2.grown hgrow0 (by have := HR.out.2.size; simp; omega) (fun k hk => (HE.out.1.lt k hk).1)
      obtain ⟨a0, c0, rfl⟩ := shape_of hown0
      have hrk := ref_rank (.slice ao n cap) n V n w1 (HH.out.1.more hbel0) HH.out.2 hn
      rw [show near n n = n by unfold near; omega, HA.out.2.2] at hrk
      have HF : Hid _ := And.intro hown0 hbel0
      have hM1 : 0 + M ≤ 2147483649 := by omega
      clear hown0 hgrow0 hbel0 HE
      go_wp2_with (first
        | (go_at_call 13; refine hrk.mono ?_; rintro e w' ⟨rfl, hw'⟩; subst w')
        | (at_builtin; refine wpList_append_own _ rfl (.tmp 19) (.tmp 24) 38 rfl w.heap.size 3 i0 (.int .i64 0) 1 8 Try.underlying38 hi hz0 hz1 hz2 rfl (by decide) _ _ _ rfl (HF.out.1.alloc _) ⟨w1.heap.size, 0, none⟩ 1 1 [.int .i64 (R : Int)] rfl rfl ?e1 ?e2 ?e3 ?e4 ?e5 ?_))
      case e1 => exact one_cell _ _ _
      case e2 => exact one_i64 _
      case e3 => unfold maxLen; omega
      case e4 => omega
      case e5 => have := HF.out.2.size; simp; omega
      intro v' w2 hown2 hgrow2 _
      have hbel2 : Below w.heap.size w w2 := (HF.out.2.alloc HF.out.2.size _).grown hgrow2 (by have := HF.out.2.size; simp; omega) (fun j hj => (HF.out.1.lt j hj).1)
      rw [HA.out.1] at hown2
      have HG : Hid _ := And.intro hown2 hbel2
      clear hown2 hbel2 hgrow2 HF
      go_wp2
      go_ret
      have hM := HA.out.2.1
      subst hM
      exact ⟨_, rfl, HG.out.1, HG.out.2⟩

end Go.Proofs.Ytmnkbdkhpnokgaa
