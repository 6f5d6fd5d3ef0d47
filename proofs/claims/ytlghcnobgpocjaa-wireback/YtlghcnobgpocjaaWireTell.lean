/-
  wire's Reader: Open, Fail, Left, Err, End.
-/
import Derived.Test.YtlghcnobgpocjaaWireMem
namespace Go.Proofs.Ytlghcnobgpocjaa
open Go.RowKit

set_option maxRecDepth 1000000 in
theorem rd_open (l : List UInt8) (hl : l.length ≤ 100000000) (w : World) : Calls Try.prog 11 #[.string (bs l)] w fun e w' => e = .returned (.pointer (some ⟨w.heap.size, 0, none⟩)) ∧ RdAt w' w.heap.size w.heap.size l 0 0 ∧ More w w' := by
  go_enter Try.func11, Try.ntmps11
  go_wp2
  go_ret
  exact ⟨rfl, ⟨Nat.le_refl _, by simp, Nat.zero_le _, hl, heap_alloc_new _ _⟩, More.alloc _ _⟩

set_option maxRecDepth 1000000 in
theorem rd_left (base b a E : Nat) (l : List UInt8) (w : World) (h : RdAt w base b l a E) :
    Calls Try.prog 13 #[.pointer (some ⟨b, 0, none⟩)] w fun e w' => e = .returned (.int .i64 ((l.drop a).length : Nat)) ∧ ∃ j, w' = w.drewN j := by
  obtain ⟨c0, c1, _, _⟩ := cells3 h.mem
  have hsz : (bs l).size = l.length := bs_size l
  have hle := h.le
  have hlen := h.len
  have hsub := Hid.mk (show (l.length : Int) - (a : Int) = ((l.length - a : Nat) : Int) by omega)
  rw [List.length_drop]
  clear h
  go_enter Try.func13, Try.ntmps13
  go_wp2
  go_quiet (fail)
  go_wp2
  go_ret
  exact ⟨by simp [hsub.out], _, rfl⟩

theorem no_left (w : World) : Calls Try.prog 13 #[.pointer none] w fun e w' => e = .returned (.int .i64 0) ∧ w' = w := by
  go_enter Try.func13, Try.ntmps13
  go_wp2
  go_ret
  exact ⟨rfl, rfl⟩

theorem rd_err (base b a E : Nat) (l : List UInt8) (w : World) (h : RdAt w base b l a E) :
    Calls Try.prog 14 #[.pointer (some ⟨b, 0, none⟩)] w fun e w' => e = .returned (.int .i64 E) ∧ w' = w := by
  obtain ⟨_, _, c2, _⟩ := cells3 h.mem
  clear h
  go_enter Try.func14, Try.ntmps14
  go_wp2
  go_ret
  exact ⟨rfl, rfl⟩

theorem no_err (w : World) : Calls Try.prog 14 #[.pointer none] w fun e w' => e = .returned (.int .i64 11) ∧ w' = w := by
  go_enter Try.func14, Try.ntmps14
  go_wp2
  go_ret
  exact ⟨rfl, rfl⟩

/-- What End tells. -/
def endE (l : List UInt8) (E : Nat) : Nat := if E = 0 ∧ l ≠ [] then 3 else E

set_option maxRecDepth 1000000 in
theorem rd_end (base b a E : Nat) (l : List UInt8) (w : World) (h : RdAt w base b l a E) :
    Calls Try.prog 15 #[.pointer (some ⟨b, 0, none⟩)] w fun e w' => e = .returned (.int .i64 (endE (l.drop a) E : Nat)) ∧ ∃ j, w' = w.drewN j := by
  have he := rd_err base b a E l w h
  have hl := rd_left base b a E l w h
  have hlen := h.len
  have hd : (l.drop a).length ≤ 100000000 := by rw [List.length_drop]; omega
  clear h hlen
  generalize l.drop a = m at *
  by_cases h0 : E = 0
  · subst h0
    by_cases h1 : m = []
    · subst h1
      rw [show endE [] 0 = 0 by simp [endE]]
      go_enter Try.func15, Try.ntmps15
      go_wp2_with (first
        | (go_at_call 14; refine he.mono ?_; rintro e w' ⟨rfl, hw'⟩; subst w')
        | (go_at_call 13; refine hl.mono ?_; rintro e w' ⟨rfl, m, hw'⟩; subst w'))
      go_ret
      exact ⟨rfl, _, rfl⟩
    · rw [show endE m 0 = 3 by simp [endE, h1]]
      have h2 : 0 < m.length := List.length_pos_iff.2 h1
      generalize m.length = d at *
      go_enter Try.func15, Try.ntmps15
      go_wp2_with (first
        | (go_at_call 14; refine he.mono ?_; rintro e w' ⟨rfl, hw'⟩; subst w')
        | (go_at_call 13; refine hl.mono ?_; rintro e w' ⟨rfl, m, hw'⟩; subst w'))
      go_ret
      exact ⟨rfl, _, rfl⟩
  · rw [show endE m E = E by simp [endE, h0]]
    have hne : ((E : Int) != 0) = true := by simp; omega
    clear hl
    go_enter Try.func15, Try.ntmps15
    go_wp2_with (go_at_call 14; refine he.mono ?_; rintro e w' ⟨rfl, hw'⟩; subst w')
    go_ret
    exact ⟨rfl, 0, rfl⟩

theorem no_end (w : World) : Calls Try.prog 15 #[.pointer none] w fun e w' => e = .returned (.int .i64 11) ∧ w' = w := by
  go_enter Try.func15, Try.ntmps15
  go_wp2_with (go_at_call 14; refine (no_err _).mono ?_; rintro e w' ⟨rfl, hw'⟩; subst w')
  go_ret
  exact ⟨rfl, rfl⟩

set_option maxRecDepth 1000000 in
theorem rd_fail (base b a E F : Nat) (l : List UInt8) (w : World) (h : RdAt w base b l a E) :
    Calls Try.prog 34 #[.pointer (some ⟨b, 0, none⟩), .int .i64 F] w fun e w' => e = .returned (.tuple #[]) ∧ RdAt w' base b l a (if E = 0 then F else E) ∧ Keeps RT base w w' := by
  obtain ⟨_, _, c2, _, _, z2⟩ := cells3 h.mem
  by_cases h0 : E = 0
  · subst h0
    rw [if_pos rfl]
    have HH := Hid.mk (h.errs (E' := F))
    clear h
    go_enter Try.func34, Try.ntmps34
    go_wp2
    go_end0
    exact ⟨rfl, HH.out⟩
  · rw [if_neg h0]
    have HH := Hid.mk h
    have hne : ((E : Int) == 0) = false := by simp; omega
    clear h
    go_enter Try.func34, Try.ntmps34
    go_wp2
    go_end0
    exact ⟨rfl, HH.out, Keeps.refl _ _ _⟩

theorem no_fail (F : Nat) (w : World) : Calls Try.prog 34 #[.pointer none, .int .i64 F] w fun e w' => e = .returned (.tuple #[]) ∧ w' = w := by
  go_enter Try.func34, Try.ntmps34
  go_wp2
  go_end0
  exact ⟨rfl, rfl⟩

set_option maxRecDepth 1000000 in
theorem ref_end (base x E : Nat) (l : List UInt8) (w : World) (h : XAt w base x l E) :
    Calls Try.prog 16 #[.pointer (some ⟨x, 0, none⟩)] w fun e w' => e = .returned (.int .i64 (endE l E : Nat)) ∧ w' = w := by
  obtain ⟨c0, c1, _, _⟩ := cells2 h.mem
  have hlen := h.len
  clear h
  by_cases h0 : E = 0
  · subst h0
    by_cases h1 : l = []
    · subst h1
      have he : (bs []).toList.isEmpty = true := by rw [ByteArray.toList_eq]; rfl
      rw [show endE [] 0 = 0 by simp [endE]]
      go_enter Try.func16, Try.ntmps16
      go_wp2
      go_ret
      exact ⟨rfl, rfl⟩
    · have he : (bs l).toList.isEmpty = false := by rw [ByteArray.toList_eq]; simpa [bs] using h1
      rw [show endE l 0 = 3 by simp [endE, h1]]
      go_enter Try.func16, Try.ntmps16
      go_wp2
      go_ret
      exact ⟨rfl, rfl⟩
  · rw [show endE l E = E by simp [endE, h0]]
    have hne : ((E : Int) == 0) = false := by simp; omega
    go_enter Try.func16, Try.ntmps16
    go_wp2
    go_ret
    exact ⟨rfl, rfl⟩

end Go.Proofs.Ytlghcnobgpocjaa
