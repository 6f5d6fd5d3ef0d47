/-
  vocab: the table of a vocabulary; Len, ID, Has, Word.
-/
import Derived.Test.YtbpegpgbdemomaaVoA
namespace Go.Proofs.Ytbpegpgbdemomaa
open Go.RowKit Go.Shelf
attribute [local go_sem] Oper.semAt_some

/-- A vocabulary in memory: D are its table's blocks. -/
def Voc (w : World) (D : Nat → Prop) (v : Nat) (ts : List (List UInt8)) : Prop :=
  ¬ D v ∧ ∃ b, w.heap[v]? = some (.cells #[.pointer (some ⟨b, 0, none⟩)] 57 (0, 0)) ∧ Tab w D b ts
theorem Voc.more {w w' : World} {D : Nat → Prop} {v : Nat} {ts : List (List UInt8)} (h : Voc w D v ts) (k : More w w') : Voc w' D v ts := by
  obtain ⟨h1, b, h2, h3⟩ := h
  exact ⟨h1, b, k.at h2, h3.more k⟩
theorem Voc.lt {w : World} {D : Nat → Prop} {v : Nat} {ts : List (List UInt8)} (h : Voc w D v ts) : v < w.heap.size := by
  obtain ⟨h1, b, h2, h3⟩ := h
  exact lt_of_block h2

set_option maxRecDepth 1000000 in
theorem vo_table (p : Option Addr) (v : Nat) (w : World) (hc : w.cell? ⟨v, 0, none⟩ = some (.pointer p)) :
    Calls Try.prog 37 #[.pointer (some ⟨v, 0, none⟩)] w fun e w' => e = .returned (.agg #[.pointer p]) ∧ More w w' := by
  have hc2 : ∀ o, (w.alloc o).cell? ⟨v, 0, none⟩ = some (.pointer p) := fun o => ((more_alloc w o).cell (World.block_lt_of_cell? _ _ hc)).trans hc
  go_enter Try.func37, Try.ntmps37
  go_wp2
  refine bodyPost_ret (v := .agg #[.pointer p]) (by simp [results, Try.results37, go_sem]; try rfl) rfl ⟨rfl, more_alloc _ _⟩
set_option maxRecDepth 1000000 in
theorem vo_table_nil (w : World) :
    Calls Try.prog 37 #[.pointer none] w fun e w' => e = .returned (.agg #[.pointer none]) ∧ More w w' := by
  go_enter Try.func37, Try.ntmps37
  go_wp2
  refine bodyPost_ret (v := .agg #[.pointer none]) (by simp [results, Try.results37, go_sem]; try rfl) rfl ⟨rfl, more_alloc _ _⟩

theorem vo_field (p : Option Addr) (w : World) : (Instr.field 55 (.agg #[.pointer p]) 0).run Try.prog w = .ok (.pointer p) w := by kernel_rfl
attribute [local go_sem] vo_field

set_option maxRecDepth 1000000 in
theorem vo_Len (v : Nat) (w : World) (D : Nat → Prop) (ts : List (List UInt8)) (h : Voc w D v ts) :
    Calls Try.prog 14 #[.pointer (some ⟨v, 0, none⟩)] w fun e w' => e = .returned (.int .i64 ts.length) ∧ More w w' := by
  obtain ⟨hv, b, hb, hT⟩ := h
  have ht := vo_table (some ⟨b, 0, none⟩) v w (wcells1 hb).1
  have hln := fun w1 (hm : More w w1) => in_Len w1 D b ts (hT.more hm)
  generalize ts.length = n at *
  clear hb hT hv
  go_enter Try.func14, Try.ntmps14
  go_wp2_with (first
    | (go_at_call 37; refine ht.mono ?_; rintro e w1 ⟨rfl, hm⟩; have H1 := Hid.mk hm; clear hm)
    | (go_at_call 39; refine (hln _ H1.out).mono ?_; rintro e w' ⟨rfl, hw'⟩; subst w'))
  go_ret
  exact ⟨rfl, H1.out⟩
set_option maxRecDepth 1000000 in
theorem vo_ID (v : Nat) (w : World) (D : Nat → Prop) (ts : List (List UInt8)) (s : List UInt8) (h : Voc w D v ts) (hN : ts.length ≤ 100000) (hs : s.length ≤ 281474976710656) :
    Calls Try.prog 15 #[.pointer (some ⟨v, 0, none⟩), .string (bs s)] w fun e w' => e = .returned (.int .i64 (idI ts s)) ∧ More w w' := by
  obtain ⟨hv, b, hb, hT⟩ := h
  have ht := vo_table (some ⟨b, 0, none⟩) v w (wcells1 hb).1
  have hfd := fun w1 (hm : More w w1) => callsIn_wide.1 (in_Find 16 (Nat.le_refl _) w1 D b ts s (hT.more hm) hN hs)
  have HI := Hid.mk (show idI ts s = if fnd ts s < 0 then 0 else fnd ts s from rfl)
  generalize idI ts s = R at *
  obtain ⟨F, hF⟩ : ∃ F, fnd ts s = F := ⟨_, rfl⟩
  rw [hF] at hfd HI
  clear hb hT hv hF
  by_cases hn : F < 0
  · rw [if_pos hn] at HI
    have hn' : ¬ 0 ≤ F := by omega
    go_enter Try.func15, Try.ntmps15
    go_wp2_with (first
      | (go_at_call 37; refine ht.mono ?_; rintro e w1 ⟨rfl, hm⟩; have H1 := Hid.mk hm; clear hm)
      | (go_at_call 40; refine (hfd _ H1.out).mono ?_; rintro e w2 ⟨rfl, hm⟩; have H2 := Hid.mk hm; clear hm))
    go_ret
    exact ⟨ret_i64 HI.out.symm, More.trans H1.out H2.out⟩
  · rw [if_neg hn] at HI
    have hn' : 0 ≤ F := by omega
    go_enter Try.func15, Try.ntmps15
    go_wp2_with (first
      | (go_at_call 37; refine ht.mono ?_; rintro e w1 ⟨rfl, hm⟩; have H1 := Hid.mk hm; clear hm)
      | (go_at_call 40; refine (hfd _ H1.out).mono ?_; rintro e w2 ⟨rfl, hm⟩; have H2 := Hid.mk hm; clear hm))
    go_ret
    exact ⟨ret_i64 HI.out.symm, More.trans H1.out H2.out⟩
set_option maxRecDepth 1000000 in
theorem vo_Has (v : Nat) (w : World) (D : Nat → Prop) (ts : List (List UInt8)) (s : List UInt8) (h : Voc w D v ts) (hN : ts.length ≤ 100000) (hs : s.length ≤ 281474976710656) :
    Calls Try.prog 17 #[.pointer (some ⟨v, 0, none⟩), .string (bs s)] w fun e w' => e = .returned (.bool (decide (0 ≤ fnd ts s))) ∧ More w w' := by
  obtain ⟨hv, b, hb, hT⟩ := h
  have ht := vo_table (some ⟨b, 0, none⟩) v w (wcells1 hb).1
  have hfd := fun w1 (hm : More w w1) => callsIn_wide.1 (in_Find 16 (Nat.le_refl _) w1 D b ts s (hT.more hm) hN hs)
  generalize fnd ts s = F at *
  clear hb hT hv
  go_enter Try.func17, Try.ntmps17
  go_wp2_with (first
    | (go_at_call 37; refine ht.mono ?_; rintro e w1 ⟨rfl, hm⟩; have H1 := Hid.mk hm; clear hm)
    | (go_at_call 40; refine (hfd _ H1.out).mono ?_; rintro e w2 ⟨rfl, hm⟩; have H2 := Hid.mk hm; clear hm))
  go_ret
  exact ⟨rfl, More.trans H1.out H2.out⟩
theorem txt_of (ts : List (List UInt8)) (i : Int) : txt ts i = .tuple #[.string (bs (wdI ts i)), .bool (decide (0 ≤ i ∧ i < ts.length))] := by
  unfold txt wdI
  by_cases h : 0 ≤ i ∧ i < ts.length
  · rw [if_pos h, if_pos h, decide_eq_true h]
  · rw [if_neg h, if_neg h, decide_eq_false h]
set_option maxRecDepth 1000000 in
theorem vo_Word (v : Nat) (w : World) (D : Nat → Prop) (ts : List (List UInt8)) (i : Int) (h : Voc w D v ts) :
    Calls Try.prog 25 #[.pointer (some ⟨v, 0, none⟩), .int .i64 i] w fun e w' => e = .returned (.string (bs (wdI ts i))) ∧ More w w' := by
  obtain ⟨hv, b, hb, hT⟩ := h
  have ht := vo_table (some ⟨b, 0, none⟩) v w (wcells1 hb).1
  have htx := fun w1 (hm : More w w1) => in_Text w1 D b ts i (hT.more hm)
  rw [txt_of] at htx
  generalize wdI ts i = x at *
  generalize decide (0 ≤ i ∧ i < ts.length) = B at *
  clear hb hT hv
  go_enter Try.func25, Try.ntmps25
  go_wp2_with (first
    | (go_at_call 37; refine ht.mono ?_; rintro e w1 ⟨rfl, hm⟩; have H1 := Hid.mk hm; clear hm)
    | (go_at_call 46; refine (htx _ H1.out).mono ?_; rintro e w' ⟨rfl, hw'⟩; subst w'))
  go_ret
  exact ⟨rfl, H1.out⟩

/-! Of nil. -/
set_option maxRecDepth 1000000 in
theorem von_Len (w : World) :
    Calls Try.prog 14 #[.pointer none] w fun e w' => e = .returned (.int .i64 0) ∧ More w w' := by
  go_enter Try.func14, Try.ntmps14
  go_wp2_with (first
    | (go_at_call 37; refine (vo_table_nil _).mono ?_; rintro e w1 ⟨rfl, hm⟩; have H1 := Hid.mk hm; clear hm)
    | (go_at_call 39; refine (inn_Len _).mono ?_; rintro e w' ⟨rfl, hw'⟩; subst w'))
  go_ret
  exact ⟨rfl, H1.out⟩
set_option maxRecDepth 1000000 in
theorem von_ID (s : ByteArray) (w : World) :
    Calls Try.prog 15 #[.pointer none, .string s] w fun e w' => e = .returned (.int .i64 0) ∧ More w w' := by
  go_enter Try.func15, Try.ntmps15
  go_wp2_with (first
    | (go_at_call 37; refine (vo_table_nil _).mono ?_; rintro e w1 ⟨rfl, hm⟩; have H1 := Hid.mk hm; clear hm)
    | (go_at_call 40; refine (inn_Find _ _).mono ?_; rintro e w' ⟨rfl, hw'⟩; subst w'))
  go_ret
  exact ⟨rfl, H1.out⟩
set_option maxRecDepth 1000000 in
theorem von_Has (s : ByteArray) (w : World) :
    Calls Try.prog 17 #[.pointer none, .string s] w fun e w' => e = .returned (.bool false) ∧ More w w' := by
  go_enter Try.func17, Try.ntmps17
  go_wp2_with (first
    | (go_at_call 37; refine (vo_table_nil _).mono ?_; rintro e w1 ⟨rfl, hm⟩; have H1 := Hid.mk hm; clear hm)
    | (go_at_call 40; refine (inn_Find _ _).mono ?_; rintro e w' ⟨rfl, hw'⟩; subst w'))
  go_ret
  exact ⟨rfl, H1.out⟩
set_option maxRecDepth 1000000 in
theorem von_Word (i : Int) (w : World) :
    Calls Try.prog 25 #[.pointer none, .int .i64 i] w fun e w' => e = .returned (.string (bs [])) ∧ More w w' := by
  go_enter Try.func25, Try.ntmps25
  go_wp2_with (first
    | (go_at_call 37; refine (vo_table_nil _).mono ?_; rintro e w1 ⟨rfl, hm⟩; have H1 := Hid.mk hm; clear hm)
    | (go_at_call 46; refine (inn_Text _ _).mono ?_; rintro e w' ⟨rfl, hw'⟩; subst w'))
  go_ret
  exact ⟨rfl, H1.out⟩
end Go.Proofs.Ytbpegpgbdemomaa
