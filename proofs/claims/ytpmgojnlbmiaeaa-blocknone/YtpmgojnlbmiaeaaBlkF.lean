/-
  block: a block's write, text.
-/
import Derived.Test.YtpmgojnlbmiaeaaBlkE
import Derived.Lib.SlBuf
namespace Go.Proofs.Ytpmgojnlbmiaeaa
open Go.RowKit

/-- copy of a text that fits into a row of bytes. -/
theorem copy_row {base q m c : Nat} {w : World} {xs : List Value} {t : List UInt8} (h : w.ownsRow base 5 1 (.slice (some ⟨q, 0, none⟩) m c) m xs) (ht : t.length ≤ m) :
    ∃ w2, (Builtin.copy_ #[57, 9] 3 #[.slice (some ⟨q, 0, none⟩) m c, .string (bs t)]).run Try.prog w = .ok (.int .i64 t.length) w2 ∧ (∃ xs', w2.ownsRow base 5 1 (.slice (some ⟨q, 0, none⟩) m c) m xs' ∧ xs'.take t.length = u8v t) ∧ w.grownBy w2 (some q) := by
  rcases h.2 with ⟨h', _⟩ | ⟨q', c', cur, h', h1, h2, h3, h4, h5, h6⟩
  · simp at h'
  · simp only [Value.slice.injEq, Option.some.injEq, Addr.mk.injEq, and_true, true_and] at h'
    obtain ⟨rfl, rfl⟩ := h'
    have hsz : (bs t).size = t.length := bs_size t
    have hr := Lib.run_copy_row_string (P := Try.prog) w 57 9 3 5 q 0 m c (bs t) cur 5 Try.underlying57 (by kernel_rfl) h2 (by omega) (by omega)
    have hbc : Lib.byteCells (bs t).data.toList = u8v t := by simp [Lib.byteCells, u8v, bs]
    rw [hbc, hsz] at hr
    refine ⟨_, hr, ⟨((cur.toList.take 0 ++ u8v t ++ cur.toList.drop (0 + t.length)).toArray).toList.take (m * 1), ⟨?_, .inr ⟨q, c, _, rfl, h1, setRow_heap w q cur _ _ _ h2, h3, h4, ?_, rfl⟩⟩, ?_⟩, ⟨rfl, rfl, rfl, by simp [World.setRow], fun k _ hk => setRow_other w q k _ (fun e => hk (by rw [e]))⟩⟩
    · simp only [List.length_take, List.length_append, List.length_drop, u8v_len, Array.length_toList, List.take_zero, List.length_nil]; omega
    · simp only [List.size_toArray, List.length_append, List.length_drop, u8v_len, Array.length_toList, List.take_zero, List.length_nil]; omega
    · simp only [List.take_zero, List.nil_append, Nat.mul_one]
      rw [List.take_take, show min t.length m = t.length by omega, ← u8v_len t]
      exact List.take_left

section
variable {w : World} {base b N g cap : Nat} {size most : Int} {vf : Value} {tk : Nat → Bool} {tx : Nat → List UInt8} {vb : Nat → Value} {F : List Nat}
set_option maxHeartbeats 2000000 in
set_option maxRecDepth 1000000 in
theorem bk_text (h : Sto w base b size most N (.slice (some ⟨g, 0, none⟩) N cap) vf tk tx vb F) {k : Nat} (hk : k < N) :
    Calls Try.prog 23 #[.pointer (some ⟨g, k * 3, none⟩)] w fun e w' => e = .returned (.string (bs (tx k))) ∧ ∃ q, w' = w.drewN q := by
  obtain ⟨_, c1, c2, _⟩ := h.cell hk
  obtain ⟨m, xs, hm, hr, hx⟩ := h.byt k hk
  obtain ⟨t, ht⟩ : ∃ t, tx k = t := ⟨_, rfl⟩
  rw [ht] at c2 hm hx ⊢
  obtain ⟨u, hu⟩ : ∃ u, t.length = u := ⟨_, rfl⟩
  rw [hu] at c2 hm hx
  rcases hr.2 with ⟨hv, rfl⟩ | ⟨q, cq, cu, hv, _, hq, hmc, hcl, _⟩
  · obtain rfl : u = 0 := by omega
    obtain rfl : t = [] := List.eq_nil_of_length_eq_zero hu
    rw [hv] at c1
    have hcv : ∀ n, (convert 57 9 (.slice none 0 0)).run Try.prog (w.drewN n) = .ok (.string (bs [])) (w.drewN n) := fun n => by kernel_rfl
    clear h hr hv hu hx ht
    go_enter Try.func23, Try.ntmps23
    go_wp2
    go_quiet (fail)
    go_wp2
    go_ret
    exact ⟨rfl, nq, rfl⟩
  · have hucq : u ≤ cq := Nat.le_trans hm hmc
    rw [hv] at c1 hr
    have hcells : ∀ j, j < u → w.cell? ⟨q, j, none⟩ = some (.int .u8 ((t.getD j 0).toNat : Nat)) := fun j hj => by
      rw [hr.cellAt j (by omega)]
      have : (xs.take u)[j]? = (u8v t)[j]? := by rw [hx]
      rw [List.getElem?_take, if_pos hj] at this
      rw [this]
      simp [u8v, List.getD, List.getElem?_eq_getElem (show j < t.length by omega)]
    have hcv : ∀ n, (convert 57 9 (.slice (some ⟨q, 0, none⟩) u cq)).run Try.prog (w.drewN n) = .ok (.string (bs t)) (w.drewN n) := fun n => by
      subst hu
      refine run_convert_bytes_back (w.drewN n) 57 9 5 _ cq t Try.underlying57 Try.underlying5 Try.underlying9 (fun j hj => ?_)
      rw [show (⟨q, 0, none⟩ : Addr).add j = ⟨q, j, none⟩ by simp [Addr.add]; omega]
      refine (hcells j hj).trans ?_
      simp [List.getD, List.getElem?_eq_getElem hj]
    clear h hr hv hu hx ht hq hcells
    go_enter Try.func23, Try.ntmps23
    go_wp2
    go_quiet (fail)
    go_wp2
    go_ret
    exact ⟨rfl, nq, rfl⟩
end
end Go.Proofs.Ytpmgojnlbmiaeaa
