/-
  Law 17: any call, done by both, tells the same, and leaves both with the same blocks.
-/
import Derived.Test.YtpmgojnlbmiaeaaBlkLawB
namespace Go.Proofs.Ytpmgojnlbmiaeaa
open Go.RowKit

section
variable {w : World} {base b x size most N : Nat} {tk : Nat → Bool} {tx u : Nat → List UInt8}
theorem SX.facts (h : SX w base b size most N tk tx) : N ≤ most ∧ most ≤ 1048576 ∧ size ≤ 65536 ∧ base ≤ w.heap.size ∧ ∃ a, First tk N a ∧ (most ≤ a ↔ cnt tk N = most) := by
  obtain ⟨vo, vf, vb, F, h⟩ := h
  refine ⟨h.plain.le, h.mostLe, h.sizeLe, h.mem.sz, ?_⟩
  by_cases h0 : F = []
  · subst h0
    exact ⟨N, h.plain.firstN, h.plain.full h.plain.firstN⟩
  · have hf := (h.plain.first (by cases F with | nil => exact absurd rfl h0 | cons _ _ => simp)).1
    exact ⟨_, hf, h.plain.full hf⟩
theorem told_same {f : Nat} {args : Array Value} {T : TypeId → Prop} {r : Value} {P : World → Prop} (hb : base ≤ w.heap.size) (h : Calls Try.prog f args w fun e w' => e = .returned r ∧ w' = w) (hP : P w) : Told f args T base r P w :=
  h.mono (by rintro e w' ⟨rfl, rfl⟩; exact ⟨rfl, hP, KeepsT.refl _ _ _⟩)
theorem told_drawn {f : Nat} {args : Array Value} {T : TypeId → Prop} {r : Value} {P : World → Prop} (hb : base ≤ w.heap.size) (h : Calls Try.prog f args w fun e w' => e = .returned r ∧ ∃ q, w' = w.drewN q) (hP : ∀ w', More w w' → P w') : Told f args T base r P w :=
  h.mono (by rintro e w' ⟨rfl, q, rfl⟩; exact ⟨rfl, hP _ (More.drewN w q), KeepsT.more (More.drewN w q) hb⟩)

/-- What is left behind a call. -/
def After (base b x size most N : Nat) (w : World) : Prop := ∃ N' tk' tx' u', N' ≤ N + 1 ∧ Both w base b x size most N' tk' tx' u'
theorem Both.after (h : Both w base b x size most N tk tx u) : After base b x size most N w := ⟨N, tk, tx, u, by omega, h⟩

theorem both_alloc (h : Both w base b x size most N tk tx u) (hN : N ≤ 1000000) : ∃ r er : Int, ∃ Q1 : World → Prop,
    (∀ w', More w w' → Told 16 #[.pointer (some ⟨b, 0, none⟩)] BT base (.tuple #[.int .i64 r, .int .i64 er]) Q1 w') ∧
    (∀ w', Q1 w' → Told 19 #[.pointer (some ⟨x, 0, none⟩)] DT base (.tuple #[.int .i64 r, .int .i64 er]) (After base b x size most N) w') := by
  obtain ⟨hle, hmo, _, hb, a, hf, hfull⟩ := h.prog.facts
  by_cases hc : cnt tk N = most
  · have ham := hfull.2 hc
    obtain rfl : a = N := by have := hf.1; omega
    refine ⟨0, 6, fun w' => Both w' base b x size most a tk tx u, fun w' hm => ?_, fun w' hQ => ?_⟩
    · have h' := h.more hm
      exact told_drawn h'.prog.facts.2.2.2.1 (st_Alloc_full h'.prog hc) fun w'' hm' => h'.more hm'
    · obtain ⟨vt, vk, hd⟩ := hQ.doc
      exact told_same hQ.prog.facts.2.2.2.1 (rd_Alloc_full hd (by omega) hf ham) hQ.after
  · have hlt : cnt tk N < most := by have := cnt_le tk N; omega
    have ham : a < most := by
      rcases Nat.lt_or_ge a most with e | e
      · exact e
      · exact absurd (hfull.1 e) hc
    refine ⟨a, 0, fun w' => SX w' base b size most (max N (a + 1)) (upd tk a true) (upd tx a []) ∧ ∃ vt vk, Doc w' base x size most N N N vt vk tk u, fun w' hm => ?_, fun w' hQ => ?_⟩
    · have h' := h.more hm
      obtain ⟨vt, vk, hd⟩ := h'.doc
      refine (sx_Alloc h'.prog hlt hf).mono ?_
      rintro e w'' ⟨rfl, h1, h2⟩
      exact ⟨rfl, ⟨h1, vt, vk, hd.keptB h2⟩, h2⟩
    · obtain ⟨hS, vt, vk, hd⟩ := hQ
      have hsame : ∀ i, i < max N (a + 1) → upd tk a true i = true → upd tx a [] i = upd u a [] i := fun i hi ht => by
        by_cases e : i = a
        · rw [e, upd_at, upd_at]
        · rw [upd_ne _ _ e] at ht
          rw [upd_ne _ _ e, upd_ne _ _ e]
          exact h.same i (by have := hf.1; omega) ht
      by_cases haN : a < N
      · refine (rd_Alloc_old hd (by omega) hmo hf haN hle).mono ?_
        rintro e w'' ⟨rfl, h1, h2⟩
        refine ⟨rfl, ⟨max N (a + 1), _, _, upd u a [], by omega, hS.keptD h2, ⟨vt, vk, ?_⟩, hsame⟩, h2⟩
        rw [show max N (a + 1) = N by omega]
        exact h1
      · obtain rfl : a = N := by have := hf.1; omega
        refine (rd_Alloc_new hd (by omega) hmo hf ham).mono ?_
        rintro e w'' ⟨rfl, ⟨vt', vk', h1⟩, h2⟩
        refine ⟨rfl, ⟨max a (a + 1), _, _, upd u a [], by omega, hS.keptD h2, ⟨vt', vk', ?_⟩, hsame⟩, h2⟩
        rw [show max a (a + 1) = a + 1 by omega]
        exact h1

theorem has_or (N : Nat) (tk : Nat → Bool) (id : Int) : ¬ Has N tk id ∨ ∃ k : Nat, id = k ∧ k < N ∧ tk k = true := by
  by_cases h : Has N tk id
  · exact .inr ⟨id.toNat, by have := h.1; omega, by have := h.2.1; have := h.1; omega, h.2.2⟩
  · exact .inl h
theorem both_write (h : Both w base b x size most N tk tx u) (hN : N ≤ 1000000) (id : Int) (h1 : -9223372036854775808 ≤ id) (h2 : id ≤ 9223372036854775807) (t : List UInt8) : ∃ er : Int, ∃ Q1 : World → Prop,
    (∀ w', More w w' → Told 17 #[.pointer (some ⟨b, 0, none⟩), .int .i64 id, .string (bs t)] BT base (.int .i64 er) Q1 w') ∧
    (∀ w', Q1 w' → Told 20 #[.pointer (some ⟨x, 0, none⟩), .int .i64 id, .string (bs t)] DT base (.int .i64 er) (After base b x size most N) w') := by
  rcases has_or N tk id with hn | ⟨k, rfl, hk, ht⟩
  · refine ⟨7, fun w' => Both w' base b x size most N tk tx u, fun w' hm => ?_, fun w' hQ => ?_⟩
    · have h' := h.more hm
      exact told_same h'.prog.facts.2.2.2.1 (st_Write_no h'.prog id hn h1 h2 _) h'
    · obtain ⟨vt, vk, hd⟩ := hQ.doc
      exact told_same hQ.prog.facts.2.2.2.1 (rd_Write_no hd (by omega) id hn h1 h2 _) hQ.after
  · by_cases hl : size < t.length
    · refine ⟨5, fun w' => Both w' base b x size most N tk tx u, fun w' hm => ?_, fun w' hQ => ?_⟩
      · have h' := h.more hm
        exact told_same h'.prog.facts.2.2.2.1 (st_Write_long h'.prog hk ht t hl) h'
      · obtain ⟨vt, vk, hd⟩ := hQ.doc
        exact told_same hQ.prog.facts.2.2.2.1 (rd_Write_long hd (by omega) hk ht t hl) hQ.after
    · refine ⟨0, fun w' => SX w' base b size most N tk (upd tx k t) ∧ ∃ vt vk, Doc w' base x size most N N N vt vk tk u, fun w' hm => ?_, fun w' hQ => ?_⟩
      · have h' := h.more hm
        obtain ⟨vt, vk, hd⟩ := h'.doc
        refine (st_Write h'.prog hk ht t (by omega)).mono ?_
        rintro e w'' ⟨rfl, h1, h2⟩
        exact ⟨rfl, ⟨h1, vt, vk, hd.keptB h2⟩, h2⟩
      · obtain ⟨hS, vt, vk, hd⟩ := hQ
        refine (rd_Write hd (by omega) hk ht t (by omega)).mono ?_
        rintro e w'' ⟨rfl, h1, h2⟩
        refine ⟨rfl, ⟨N, _, _, upd u k t, by omega, hS.keptD h2, ⟨vt, vk, h1⟩, fun i hi hti => ?_⟩, h2⟩
        by_cases e : i = k
        · rw [e, upd_at, upd_at]
        · rw [upd_ne _ _ e, upd_ne _ _ e]; exact h.same i hi hti
theorem both_read (h : Both w base b x size most N tk tx u) (hN : N ≤ 1000000) (id : Int) (h1 : -9223372036854775808 ≤ id) (h2 : id ≤ 9223372036854775807) : ∃ (y : List UInt8) (er : Int),
    (∀ w', More w w' → Told 13 #[.pointer (some ⟨b, 0, none⟩), .int .i64 id] BT base (.tuple #[.string (bs y), .int .i64 er]) (fun w' => Both w' base b x size most N tk tx u) w') ∧
    (∀ w', Both w' base b x size most N tk tx u → Told 14 #[.pointer (some ⟨x, 0, none⟩), .int .i64 id] DT base (.tuple #[.string (bs y), .int .i64 er]) (fun w' => Both w' base b x size most N tk tx u) w') := by
  rcases has_or N tk id with hn | ⟨k, rfl, hk, ht⟩
  · refine ⟨[], 7, fun w' hm => ?_, fun w' hQ => ?_⟩
    · have h' := h.more hm
      exact told_same h'.prog.facts.2.2.2.1 (st_Read_no h'.prog id hn h1 h2) h'
    · obtain ⟨vt, vk, hd⟩ := hQ.doc
      exact told_same hQ.prog.facts.2.2.2.1 (rd_Read_no hd (by omega) id hn h1 h2) hQ
  · refine ⟨tx k, 0, fun w' hm => ?_, fun w' hQ => ?_⟩
    · have h' := h.more hm
      exact told_drawn h'.prog.facts.2.2.2.1 (st_Read h'.prog hk ht) fun w'' hm' => h'.more hm'
    · obtain ⟨vt, vk, hd⟩ := hQ.doc
      rw [h.same k hk ht]
      exact told_same hQ.prog.facts.2.2.2.1 (rd_Read hd (by omega) hk ht) hQ
theorem both_free (h : Both w base b x size most N tk tx u) (hN : N ≤ 1000000) (id : Int) (h1 : -9223372036854775808 ≤ id) (h2 : id ≤ 9223372036854775807) : ∃ er : Int, ∃ Q1 : World → Prop,
    (∀ w', More w w' → Told 18 #[.pointer (some ⟨b, 0, none⟩), .int .i64 id] BT base (.int .i64 er) Q1 w') ∧
    (∀ w', Q1 w' → Told 21 #[.pointer (some ⟨x, 0, none⟩), .int .i64 id] DT base (.int .i64 er) (After base b x size most N) w') := by
  rcases has_or N tk id with hn | ⟨k, rfl, hk, ht⟩
  · refine ⟨7, fun w' => Both w' base b x size most N tk tx u, fun w' hm => ?_, fun w' hQ => ?_⟩
    · have h' := h.more hm
      exact told_same h'.prog.facts.2.2.2.1 (st_Free_no h'.prog id hn h1 h2) h'
    · obtain ⟨vt, vk, hd⟩ := hQ.doc
      exact told_same hQ.prog.facts.2.2.2.1 (rd_Free_no hd (by omega) id hn h1 h2) hQ.after
  · refine ⟨0, fun w' => SX w' base b size most N (upd tk k false) (upd tx k []) ∧ ∃ vt vk, Doc w' base x size most N N N vt vk tk u, fun w' hm => ?_, fun w' hQ => ?_⟩
    · have h' := h.more hm
      obtain ⟨vt, vk, hd⟩ := h'.doc
      refine (st_Free h'.prog hk ht).mono ?_
      rintro e w'' ⟨rfl, h1, h2⟩
      exact ⟨rfl, ⟨h1, vt, vk, hd.keptB h2⟩, h2⟩
    · obtain ⟨hS, vt, vk, hd⟩ := hQ
      refine (rd_Free hd (by omega) hk ht).mono ?_
      rintro e w'' ⟨rfl, h1, h2⟩
      refine ⟨rfl, ⟨N, _, _, u, by omega, hS.keptD h2, ⟨vt, vk, h1⟩, fun i hi hti => ?_⟩, h2⟩
      have hne : i ≠ k := fun e => by rw [e, upd_at] at hti; cases hti
      rw [upd_ne _ _ hne] at hti
      rw [upd_ne _ _ hne]; exact h.same i hi hti

theorem does_all (h : Both w base b x size most N tk tx u) (hN : N ≤ 1000000) (kd id : Int) (h1 : -9223372036854775808 ≤ id) (h2 : id ≤ 9223372036854775807) (t : List UInt8) :
    Calls Try.prog 8 #[.pointer (some ⟨b, 0, none⟩), .pointer (some ⟨x, 0, none⟩), .agg #[.int .i64 kd, .int .i64 id, .string (bs t)]] w fun e w' => e = .returned (.bool true) ∧ After base b x size most N w' ∧ Below base w w' := by
  have hb := h.prog.facts.2.2.2.1
  by_cases a0 : kd = 0 ∨ kd = 1
  · obtain ⟨r, er, Q1, hA, hB⟩ := both_alloc h hN
    exact does_alloc a0 hb r er hA hB
  · by_cases a2 : kd = 2
    · subst a2
      obtain ⟨er, Q1, hA, hB⟩ := both_write h hN id h1 h2 t
      exact does_write hb er _ hA hB
    · by_cases a3 : kd = 3
      · subst a3
        obtain ⟨y, er, hA, hB⟩ := both_read h hN id h1 h2
        exact (does_read hb y er hA hB).mono (by rintro e w' ⟨rfl, h1, h2⟩; exact ⟨rfl, h1.after, h2⟩)
      · by_cases a4 : kd = 4
        · subst a4
          obtain ⟨er, Q1, hA, hB⟩ := both_free h hN id h1 h2
          exact does_free hb er hA hB
        · exact (does_other (fun e => a0 (.inl e)) (fun e => a0 (.inr e)) a2 a3 a4).mono (by rintro e w' ⟨rfl, hm⟩; exact ⟨rfl, (h.more hm).after, hm.mono hb⟩)
end

/-- A list of acts as it came in. -/
def ActRd (w : World) (v : Value) (n : Nat) (ak ai : Nat → Int) (at_ : Nat → List UInt8) : Prop :=
  (n = 0 ∧ ∃ ao c, v = .slice ao 0 c) ∨ ∃ g o cap, v = .slice (some ⟨g, o, none⟩) n cap ∧ g < w.heap.size ∧ ∀ k, k < n → w.cell? ⟨g, o + k * 3, none⟩ = some (.int .i64 (ak k)) ∧ w.cell? ⟨g, o + k * 3 + 1, none⟩ = some (.int .i64 (ai k)) ∧ w.cell? ⟨g, o + k * 3 + 2, none⟩ = some (.string (bs (at_ k)))
theorem ActRd.opened {w : World} {v : Value} {n : Nat} {ak ai : Nat → Int} {at_ : Nat → List UInt8} (h : ActRd w v n ak ai at_) : ∃ ao cap, v = .slice ao n cap ∧ ∀ k, k < n → ∃ g o, ao = some ⟨g, o, none⟩ ∧ ∀ w', More w w' → w'.cell? ⟨g, o + k * 3, none⟩ = some (.int .i64 (ak k)) ∧ w'.cell? ⟨g, o + k * 3 + 1, none⟩ = some (.int .i64 (ai k)) ∧ w'.cell? ⟨g, o + k * 3 + 2, none⟩ = some (.string (bs (at_ k))) := by
  rcases h with ⟨rfl, ao, c, rfl⟩ | ⟨g, o, cap, rfl, hg, hc⟩
  · exact ⟨ao, c, rfl, fun k hk => by omega⟩
  · refine ⟨_, cap, rfl, fun k hk => ⟨g, o, rfl, fun w' hm => ?_⟩⟩
    obtain ⟨h1, h2, h3⟩ := hc k hk
    exact ⟨(hm.cell hg).trans h1, (hm.cell hg).trans h2, (hm.cell hg).trans h3⟩
theorem bs_list (a : List UInt8) : (bs a).toList = a := by rw [ByteArray.toList_eq]; simp [bs]
end Go.Proofs.Ytpmgojnlbmiaeaa
