/-
  block: the calls of nil; the document's store in memory.
-/
import Derived.Test.YtpmgojnlbmiaeaaBlkI
namespace Go.Proofs.Ytpmgojnlbmiaeaa
open Go.RowKit

theorem no_check (w : World) (id : Value) : Calls Try.prog 22 #[.pointer none, id] w fun e w' => e = .returned (.int .i64 11) ∧ w' = w := by
  go_enter Try.func22, Try.ntmps22
  go_wp2
  go_ret
  exact ⟨rfl, rfl⟩
theorem no_Alloc (w : World) : Calls Try.prog 16 #[.pointer none] w fun e w' => e = .returned (.tuple #[.int .i64 0, .int .i64 11]) ∧ w' = w := by
  go_enter Try.func16, Try.ntmps16
  go_wp2
  go_ret2
  exact ⟨rfl, rfl⟩
theorem no_Write (w : World) (id s : Value) : Calls Try.prog 17 #[.pointer none, id, s] w fun e w' => e = .returned (.int .i64 11) ∧ w' = w := by
  have hck := no_check w id
  go_enter Try.func17, Try.ntmps17
  go_wp2_with (go_at_call 22; refine hck.mono ?_; rintro e w1 ⟨rfl, hw'⟩; subst w1)
  go_ret
  exact ⟨rfl, rfl⟩
theorem no_Read (w : World) (id : Value) : Calls Try.prog 13 #[.pointer none, id] w fun e w' => e = .returned (.tuple #[.string (bs []), .int .i64 11]) ∧ w' = w := by
  have hck := no_check w id
  go_enter Try.func13, Try.ntmps13
  go_wp2_with (go_at_call 22; refine hck.mono ?_; rintro e w1 ⟨rfl, hw'⟩; subst w1)
  go_ret2
  exact ⟨rfl, rfl⟩
theorem no_Free (w : World) (id : Value) : Calls Try.prog 18 #[.pointer none, id] w fun e w' => e = .returned (.int .i64 11) ∧ w' = w := by
  have hck := no_check w id
  go_enter Try.func18, Try.ntmps18
  go_wp2_with (go_at_call 22; refine hck.mono ?_; rintro e w1 ⟨rfl, hw'⟩; subst w1)
  go_ret
  exact ⟨rfl, rfl⟩
theorem no_Size (w : World) : Calls Try.prog 15 #[.pointer none] w fun e w' => e = .returned (.int .i64 0) ∧ w' = w := by
  go_enter Try.func15, Try.ntmps15
  go_wp2
  go_ret
  exact ⟨rfl, rfl⟩
theorem no_Used (w : World) : Calls Try.prog 9 #[.pointer none] w fun e w' => e = .returned (.int .i64 0) ∧ w' = w := by
  go_enter Try.func9, Try.ntmps9
  go_wp2
  go_ret
  exact ⟨rfl, rfl⟩
theorem no_Left (w : World) : Calls Try.prog 11 #[.pointer none] w fun e w' => e = .returned (.int .i64 0) ∧ w' = w := by
  go_enter Try.func11, Try.ntmps11
  go_wp2
  go_ret
  exact ⟨rfl, rfl⟩
theorem no_Peak (w : World) : Calls Try.prog 12 #[.pointer none] w fun e w' => e = .returned (.int .i64 0) ∧ w' = w := by
  go_enter Try.func12, Try.ntmps12
  go_wp2
  go_ret
  exact ⟨rfl, rfl⟩

theorem Try.infoBool : (Try.prog.info? 4).map (fun i => (i.zero, i.size, i.bytes)) = some (some (.bool false), 1, 1) := by kernel_rfl
theorem Try.infoStr : (Try.prog.info? 9).map (fun i => (i.zero, i.size, i.bytes)) = some (some (.string ⟨#[]⟩), 1, 16) := by kernel_rfl
/-- What is taken, and the texts, as values. -/
def vals {α : Type} (c : α → Value) (f : Nat → α) (N : Nat) : List Value := (List.range N).map fun i => c (f i)
section
variable {α : Type} {c : α → Value} {f : Nat → α} {N k : Nat}
theorem vals_len : (vals c f N).length = N := by simp [vals]
theorem vals_get (h : k < N) : (vals c f N)[k]? = some (c (f k)) := by simp [vals, h]
theorem vals_none (h : ¬ k < N) : (vals c f N)[k]? = none := List.getElem?_eq_none (by rw [vals_len]; omega)
theorem vals_set (x : α) : (vals c f N).set k (c x) = vals c (upd f k x) N := by
  apply List.ext_getElem?
  intro i
  rw [List.getElem?_set]
  by_cases e : k = i
  · subst e
    by_cases hi : k < N
    · rw [if_pos rfl, if_pos (by rw [vals_len]; exact hi), vals_get hi, upd_at]
    · rw [if_pos rfl, if_neg (by rw [vals_len]; exact hi), vals_none hi]
  · rw [if_neg e]
    by_cases hi : i < N
    · rw [vals_get hi, vals_get hi, upd_ne _ _ (fun h => e h.symm)]
    · rw [vals_none hi, vals_none hi]
theorem vals_snoc (x : α) : vals c f N ++ [c x] = vals c (upd f N x) (N + 1) := by
  unfold vals
  rw [List.range_succ, List.map_append, List.map_cons, List.map_nil, upd_at]
  congr 1
  apply List.map_congr_left
  intro i hi
  have := List.mem_range.1 hi
  rw [upd_ne _ _ (by omega)]
end
def strC (t : List UInt8) : Value := .string (bs t)
theorem strs_oneC (f : Nat → List UInt8) (N : Nat) : ∀ u ∈ vals strC f N, u.oneCell' = true := by
  intro u hu
  simp [vals] at hu
  obtain ⟨t, _, rfl⟩ := hu
  rfl
theorem bools_oneC (f : Nat → Bool) (N : Nat) : ∀ u ∈ vals Value.bool f N, u.oneCell' = true := by
  intro u hu
  simp [vals] at hu
  obtain ⟨t, _, rfl⟩ := hu
  rfl

theorem wcells5 {w : World} {b : Nat} {u v x y z : Value} {t : TypeId} (h : w.heap[b]? = some (.cells #[u, v, x, y, z] t (0, 0))) :
    w.cell? ⟨b, 0, none⟩ = some u ∧ w.cell? ⟨b, 1, none⟩ = some v ∧ w.cell? ⟨b, 2, none⟩ = some x ∧ w.cell? ⟨b, 3, none⟩ = some y ∧ w.cell? ⟨b, 4, none⟩ = some z ∧ w.frozen? ⟨b, 2, none⟩ = false ∧ w.frozen? ⟨b, 3, none⟩ = false ∧ w.frozen? ⟨b, 4, none⟩ = false := by
  simp [World.cell?, World.frozen?, h]
theorem wset5_2 {w : World} {b : Nat} {u v x y z q : Value} {t : TypeId} (h : w.heap[b]? = some (.cells #[u, v, x, y, z] t (0, 0))) : (w.setCell ⟨b, 2, none⟩ q).heap[b]? = some (.cells #[u, v, q, y, z] t (0, 0)) := by
  simpa using heap_setCell_same w b 2 #[u, v, x, y, z] t q h
theorem wset5_3 {w : World} {b : Nat} {u v x y z q : Value} {t : TypeId} (h : w.heap[b]? = some (.cells #[u, v, x, y, z] t (0, 0))) : (w.setCell ⟨b, 3, none⟩ q).heap[b]? = some (.cells #[u, v, x, q, z] t (0, 0)) := by
  simpa using heap_setCell_same w b 3 #[u, v, x, y, z] t q h
theorem wset5_4 {w : World} {b : Nat} {u v x y z q : Value} {t : TypeId} (h : w.heap[b]? = some (.cells #[u, v, x, y, z] t (0, 0))) : (w.setCell ⟨b, 4, none⟩ q).heap[b]? = some (.cells #[u, v, x, y, q] t (0, 0)) := by
  simpa using heap_setCell_same w b 4 #[u, v, x, y, z] t q h

/-- The types of the blocks that the document's store turns. -/
def DT (t : TypeId) : Prop := t = 32 ∨ t = 9 ∨ t = 4
/-- The document's store in memory: n texts, N that are taken or not, the peak p. -/
structure Doc (w : World) (base x size most n N p : Nat) (vt vk : Value) (tk : Nat → Bool) (u : Nat → List UInt8) : Prop where
  lo : base ≤ x
  sz : base ≤ w.heap.size
  box : w.heap[x]? = some (.cells #[.int .i64 size, .int .i64 most, vt, vk, .int .i64 p] 32 (0, 0))
  txt : w.ownsRow base 9 1 vt n (vals strC u n)
  tak : w.ownsRow base 4 1 vk N (vals Value.bool tk N)
section
variable {w w' : World} {base x size most n N p k g cap : Nat} {vt vk : Value} {tk : Nat → Bool} {u : Nat → List UInt8}
theorem Doc.more (h : Doc w base x size most n N p vt vk tk u) (k : More w w') : Doc w' base x size most n N p vt vk tk u := ⟨h.lo, Nat.le_trans h.sz k.size, k.at h.box, k.own h.txt, k.own h.tak⟩
theorem Doc.newK {N' : Nat} {vk' : Value} {tk' : Nat → Bool} (h : Doc w base x size most n N p vt vk tk u) (hm : More w w') (hr : w'.ownsRow base 4 1 vk' N' (vals Value.bool tk' N')) :
    Doc (w'.setCell ⟨x, 3, none⟩ vk') base x size most n N' p vt vk' tk' u ∧ KeepsT DT base w (w'.setCell ⟨x, 3, none⟩ vk') := by
  have h' := h.more hm
  have hg := grown_set w' x 3 vk'
  exact ⟨⟨h.lo, Nat.le_trans h'.sz hg.size, wset5_3 h'.box, h'.txt.kept hg (.inr (own_off h'.txt h'.box (by decide))), hr.kept hg (.inr (own_off hr h'.box (by decide)))⟩, (KeepsT.more hm h.sz).turned hg h.lo h'.box (.inl rfl)⟩
theorem Doc.newT {n' : Nat} {vt' : Value} {u' : Nat → List UInt8} (h : Doc w base x size most n N p vt vk tk u) (hm : More w w') (hr : w'.ownsRow base 9 1 vt' n' (vals strC u' n')) :
    Doc (w'.setCell ⟨x, 2, none⟩ vt') base x size most n' N p vt' vk tk u' ∧ KeepsT DT base w (w'.setCell ⟨x, 2, none⟩ vt') := by
  have h' := h.more hm
  have hg := grown_set w' x 2 vt'
  exact ⟨⟨h.lo, Nat.le_trans h'.sz hg.size, wset5_2 h'.box, hr.kept hg (.inr (own_off hr h'.box (by decide))), h'.tak.kept hg (.inr (own_off h'.tak h'.box (by decide)))⟩, (KeepsT.more hm h.sz).turned hg h.lo h'.box (.inl rfl)⟩
theorem Doc.setP (h : Doc w base x size most n N p vt vk tk u) (q : Nat) :
    Doc (w.setCell ⟨x, 4, none⟩ (.int .i64 q)) base x size most n N q vt vk tk u ∧ KeepsT DT base w (w.setCell ⟨x, 4, none⟩ (.int .i64 q)) := by
  have hg := grown_set w x 4 (.int .i64 q)
  exact ⟨⟨h.lo, Nat.le_trans h.sz hg.size, wset5_4 h.box, h.txt.kept hg (.inr (own_off h.txt h.box (by decide))), h.tak.kept hg (.inr (own_off h.tak h.box (by decide)))⟩, (KeepsT.refl _ _ _).turned hg h.lo h.box (.inl rfl)⟩
theorem Doc.setK (h : Doc w base x size most n N p vt (.slice (some ⟨g, 0, none⟩) N cap) tk u) (k : Nat) (b : Bool) :
    Doc (w.setCell ⟨g, k, none⟩ (.bool b)) base x size most n N p vt (.slice (some ⟨g, 0, none⟩) N cap) (upd tk k b) u ∧ KeepsT DT base w (w.setCell ⟨g, k, none⟩ (.bool b)) := by
  obtain ⟨cur, hgc, hgl, _⟩ := own_at h.tak
  have hs := h.tak.stored k (.bool b)
  have hg := hs.2
  rw [vals_set] at hs
  have hxg : x ≠ g := fun e => by
    have := h.box
    rw [e, hgc] at this
    simp at this
  exact ⟨⟨h.lo, Nat.le_trans h.sz hg.size, (hg.block x (lt_of_block h.box) (by simpa using hxg)).trans h.box, h.txt.kept hg (.inr (own_off h.txt hgc (by decide))), hs.1⟩, (KeepsT.refl _ _ _).turned hg hgl hgc (.inr (.inr rfl))⟩
theorem Doc.setT (h : Doc w base x size most n N p (.slice (some ⟨g, 0, none⟩) n cap) vk tk u) (k : Nat) (t : List UInt8) :
    Doc (w.setCell ⟨g, k, none⟩ (.string (bs t))) base x size most n N p (.slice (some ⟨g, 0, none⟩) n cap) vk tk (upd u k t) ∧ KeepsT DT base w (w.setCell ⟨g, k, none⟩ (.string (bs t))) := by
  obtain ⟨cur, hgc, hgl, _⟩ := own_at h.txt
  have hs := h.txt.stored k (.string (bs t))
  have hg := hs.2
  rw [show Value.string (bs t) = strC t from rfl, vals_set] at hs
  have hxg : x ≠ g := fun e => by
    have := h.box
    rw [e, hgc] at this
    simp at this
  exact ⟨⟨h.lo, Nat.le_trans h.sz hg.size, (hg.block x (lt_of_block h.box) (by simpa using hxg)).trans h.box, hs.1, h.tak.kept hg (.inr (own_off h.tak hgc (by decide)))⟩, (KeepsT.refl _ _ _).turned hg hgl hgc (.inr (.inl rfl))⟩
theorem Doc.cellK (h : Doc w base x size most n N p vt (.slice (some ⟨g, 0, none⟩) N cap) tk u) (hk : k < N) : w.cell? ⟨g, k, none⟩ = some (.bool (tk k)) ∧ w.frozen? ⟨g, k, none⟩ = false :=
  ⟨by rw [h.tak.cellAt k (by omega), vals_get hk], h.tak.frozenAt k⟩
theorem Doc.cellT (h : Doc w base x size most n N p (.slice (some ⟨g, 0, none⟩) n cap) vk tk u) (hk : k < n) : w.cell? ⟨g, k, none⟩ = some (.string (bs (u k))) ∧ w.frozen? ⟨g, k, none⟩ = false :=
  ⟨by rw [h.txt.cellAt k (by omega), vals_get hk]; rfl, h.txt.frozenAt k⟩
end
end Go.Proofs.Ytpmgojnlbmiaeaa
