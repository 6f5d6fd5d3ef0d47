/-
  CrcTells, CrcGoes, CrcOpens, walked.
-/
import Derived.Test.YtcjckhdjbielhaaCrcRef
import Derived.Test.YtcjckhdjbielhaaCrcLive
namespace Go.Proofs.Ytcjckhdjbielhaa
open Go.RowKit

theorem of_one (l : List UInt8) (hl : l.length ≤ 9223372036854775807) (w : World) (g : Nat) (hg : g = w.heap.size) : Calls Try.prog 10 #[.slice (some ⟨g, 0, none⟩) 1 1] (w.alloc (.cells #[.string (bs l)] 9)) fun e w' => e = .returned (.int .u32 (crcM 0 l : Nat)) ∧ w' = w.alloc (.cells #[.string (bs l)] 9) := by
  subst hg
  exact crc_of _ 1 (fun _ => l) _ (ts_one l w) (by decide) (fun _ _ => hl)
theorem of_two (a b : List UInt8) (ha : a.length ≤ 9223372036854775807) (hb : b.length ≤ 9223372036854775807) (w : World) (g : Nat) (hg : g = w.heap.size) : Calls Try.prog 10 #[.slice (some ⟨g, 0, none⟩) 2 2] (w.alloc (.cells #[.string (bs a), .string (bs b)] 9)) fun e w' => e = .returned (.int .u32 (crcM 0 (a ++ b) : Nat)) ∧ w' = w.alloc (.cells #[.string (bs a), .string (bs b)] 9) := by
  subst hg
  have h := crc_of _ 2 (fun j => if j = 0 then a else b) _ (ts_two a b w) (by decide) (fun j _ => by split <;> assumption)
  have e : crcS (fun j => if j = 0 then a else b) 2 = crcM 0 (a ++ b) := by
    rw [crcS, crcS, crcS, if_pos rfl, if_neg (by decide), crcM_append]
  rw [e] at h
  exact h
theorem of_nil (w : World) : Calls Try.prog 10 #[.slice none 0 0] w fun e w' => e = .returned (.int .u32 0) ∧ w' = w :=
  crc_of _ 0 (fun _ => []) w (.inl ⟨rfl, rfl⟩) (by decide) (fun _ h => by omega)

set_option maxHeartbeats 1600000 in
set_option maxRecDepth 1000000 in
theorem crcTells (c : Nat) (hc : c < 4294967296) (l : List UInt8) (hl : l.length ≤ 9223372036854775807) (w : World) :
    Calls Try.prog 3 #[.int .u32 c, .string (bs l)] w fun e w' => e = .returned (.bool true) ∧ More w w' := by
  have hlv := fun w => live_true w
  have hsz : (bs l).size = l.length := bs_size l
  by_cases hbig : 300 < l.length
  · have hbig' : (300 : Int) < l.length := by omega
    generalize l.length = n at *
    go_enter Try.func3, Try.ntmps3
    go_wp2_with (go_at_call 7; refine (hlv _).mono ?_; rintro e w1 ⟨rfl, hm⟩)
    go_ret
    exact ⟨rfl, hm⟩
  have hbig' : ¬ (300 : Int) < l.length := by omega
  have hm := fun w => crc_more c hc l hl w
  have hr := fun w => ref_more c hc l (by omega) w
  have hr0 : ∀ w, Calls Try.prog 9 #[.int .u32 0, .string (bs l)] w fun e w' => e = .returned (.int .u32 (crcM 0 l : Nat)) ∧ w' = w := fun w => ref_more 0 (by decide) l (by omega) w
  have hof := fun w g hg => of_one l hl w g hg
  generalize crcM c l = x at *
  generalize crcM 0 l = y at *
  generalize l.length = n at *
  go_enter Try.func3, Try.ntmps3
  go_wp2_with (first
    | (go_at_call 8; refine (hm _).mono ?_; rintro e w' ⟨rfl, hw'⟩; subst w')
    | (go_at_call_of 9 (Value.int IntKind.u32 0); refine (hr0 _).mono ?_; rintro e w' ⟨rfl, hw'⟩; subst w')
    | (go_at_call 9; refine (hr _).mono ?_; rintro e w' ⟨rfl, hw'⟩; subst w')
    | (go_at_call 10; refine (hof _ _ ?_).mono ?_; · simp
       rintro e w' ⟨rfl, hw'⟩; subst w')
    | (go_at_call 7; refine (hlv _).mono ?_; rintro e w1 ⟨rfl, hm1⟩; have H1 := Hid.mk hm1; clear hm1))
  go_ret
  exact ⟨rfl, (More.alloc _ _).trans H1.out⟩

set_option maxHeartbeats 1600000 in
set_option maxRecDepth 1000000 in
theorem crcGoes (a b : List UInt8) (ha : a.length ≤ 9223372036854775807) (hb : b.length ≤ 9223372036854775807) (w : World) :
    Calls Try.prog 4 #[.string (bs a), .string (bs b)] w fun e w' => e = .returned (.bool true) ∧ More w w' := by
  have hlv := fun w => live_true w
  have hsa : (bs a).size = a.length := bs_size a
  have hsb : (bs b).size = b.length := bs_size b
  by_cases hbig : 500 < a.length
  · have hbig' : (500 : Int) < a.length := by omega
    generalize a.length = n at *
    generalize b.length = m at *
    go_enter Try.func4, Try.ntmps4
    go_wp2_with (go_at_call 7; refine (hlv _).mono ?_; rintro e w1 ⟨rfl, hm⟩)
    go_ret
    exact ⟨rfl, hm⟩
  have hbig' : ¬ (500 : Int) < a.length := by omega
  by_cases hbig2 : 500 < b.length
  · have hbig2' : (500 : Int) < b.length := by omega
    generalize a.length = n at *
    generalize b.length = m at *
    go_enter Try.func4, Try.ntmps4
    go_wp2_with (go_at_call 7; refine (hlv _).mono ?_; rintro e w1 ⟨rfl, hm⟩)
    go_ret
    exact ⟨rfl, hm⟩
  have hbig2' : ¬ (500 : Int) < b.length := by omega
  have h1 := fun w g hg => of_one a ha w g hg
  have h2 := fun w g hg => of_two a b ha hb w g hg
  have h3 := fun w g hg => of_one (a ++ b) (by rw [List.length_append]; omega) w g hg
  have h0 := fun w => of_nil w
  have hm := fun w => crc_more (crcM 0 a) (crcM_lt _ _) b hb w
  rw [crcM_append] at hm
  have hadd : ∀ w, (Op.stringOp .add (bs a) (bs b)).run Try.prog w = .ok (.string (bs (a ++ b))) w := fun w => by
    rw [run_string_add_sum w _ _ (by rw [bs_size, bs_size]; omega), bs_append]
  generalize crcM 0 (a ++ b) = x at *
  generalize crcM 0 a = y at *
  generalize a.length = n at *
  generalize b.length = m at *
  generalize a ++ b = ab at *
  have T1 := Hid.mk True.intro
  have T2 := Hid.mk True.intro
  have T3 := Hid.mk True.intro
  have T4 := Hid.mk True.intro
  go_enter Try.func4, Try.ntmps4
  go_wp2_with (first
    | (have TT := T1; clear T1 TT; go_at_call 10; refine (h1 _ _ ?_).mono ?_; · simp
       rintro e w' ⟨rfl, hw'⟩; subst w')
    | (have TT := T2; clear T2 TT; go_at_call 10; refine (h2 _ _ ?_).mono ?_; · simp
       rintro e w' ⟨rfl, hw'⟩; subst w')
    | (have TT := T3; clear T3 TT; go_at_call 10; refine (h2 _ _ ?_).mono ?_; · simp
       rintro e w' ⟨rfl, hw'⟩; subst w')
    | (have TT := T4; clear T4 TT; go_at_call 10; refine (h3 _ _ ?_).mono ?_; · simp
       rintro e w' ⟨rfl, hw'⟩; subst w')
    | (go_at_call 10; refine (h0 _).mono ?_; rintro e w' ⟨rfl, hw'⟩; subst w')
    | (go_at_call 8; refine (hm _).mono ?_; rintro e w' ⟨rfl, hw'⟩; subst w')
    | (go_at_call 7; refine (hlv _).mono ?_; rintro e w1 ⟨rfl, hm1⟩; have H1 := Hid.mk hm1; clear hm1))
  go_ret
  exact ⟨rfl, (((More.alloc _ _).trans (More.alloc _ _)).trans ((More.alloc _ _).trans (More.alloc _ _))).trans H1.out⟩
end Go.Proofs.Ytcjckhdjbielhaa
