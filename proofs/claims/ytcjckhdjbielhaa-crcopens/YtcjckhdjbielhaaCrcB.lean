/-
  crc: seal, Seal, Open; the document's mixed, More, Seal.
-/
import Derived.Test.YtcjckhdjbielhaaCrcA
import Derived.Test.YtcjckhdjbielhaaWalks
namespace Go.Proofs.Ytcjckhdjbielhaa
open Go.RowKit

theorem conv_bytes (x : List UInt8) (n cap : Nat) (hn : x.length = n) (w : World) (g : Nat) (h : ∀ j, j < n → w.cell? ⟨g, j, none⟩ = some (.int .u8 (bt x j : Nat))) : (convert 34 9 (.slice (some ⟨g, 0, none⟩) n cap)).run Try.prog w = .ok (.string (bs x)) w := by
  subst hn
  refine run_convert_bytes_back w 34 9 5 _ cap x Try.underlying34 Try.underlying5 Try.underlying9 (fun j hj => ?_)
  rw [show (⟨g, 0, none⟩ : Addr).add j = ⟨g, j, none⟩ by simp [Addr.add]; omega, h j hj]
  unfold bt
  rw [List.getElem?_eq_getElem hj]
  rfl

theorem ts_one (l : List UInt8) (w : World) : TsRd (w.alloc (.cells #[.string (bs l)] 9)) (.slice (some ⟨w.heap.size, 0, none⟩) 1 1) 1 (fun _ => l) :=
  .inr ⟨_, _, rfl, fun j hj => by
    obtain rfl : j = 0 := by omega
    have h := heap_alloc_new w (.cells #[.string (bs l)] 9)
    simp only [World.cell?, h]
    rfl⟩
theorem ts_two (l m : List UInt8) (w : World) : TsRd (w.alloc (.cells #[.string (bs l), .string (bs m)] 9)) (.slice (some ⟨w.heap.size, 0, none⟩) 2 2) 2 (fun j => if j = 0 then l else m) :=
  .inr ⟨_, _, rfl, fun j hj => by
    have h := heap_alloc_new w (.cells #[.string (bs l), .string (bs m)] 9)
    rcases (show j = 0 ∨ j = 1 by omega) with rfl | rfl <;> simp only [World.cell?, h] <;> rfl⟩
theorem conv_four {c : Nat} (hc : c < 4294967296) (w : World) (g : Nat) (h0 : w.cell? ⟨g, 0, none⟩ = some (.int .u8 ((c : Int) / 16777216))) (h1 : w.cell? ⟨g, 1, none⟩ = some (.int .u8 ((c : Int) / 65536 % 256))) (h2 : w.cell? ⟨g, 2, none⟩ = some (.int .u8 ((c : Int) / 256 % 256))) (h3 : w.cell? ⟨g, 3, none⟩ = some (.int .u8 ((c : Int) % 256))) :
    (convert 34 9 (.slice (some ⟨g, 0, none⟩) 4 4)).run Try.prog w = .ok (.string (bs (sealB c))) w := by
  refine conv_bytes (sealB c) 4 4 rfl w g fun j hj => ?_
  rcases (show j = 0 ∨ j = 1 ∨ j = 2 ∨ j = 3 by omega) with rfl | rfl | rfl | rfl
  · rw [h0]; simp [bt, sealB]; omega
  · rw [h1]; simp [bt, sealB]; try omega
  · rw [h2]; simp [bt, sealB]; try omega
  · rw [h3]; simp [bt, sealB]; try omega

set_option maxRecDepth 1000000 in
theorem crc_seal (l : List UInt8) (hl : l.length ≤ 9223372036854775807) (w : World) :
    Calls Try.prog 17 #[.string (bs l)] w fun e w' => e = .returned (.string (bs (sealB (crcM 0 l)))) ∧ More w w' := by
  have hof := fun w => crc_of _ 1 (fun _ => l) _ (ts_one l w) (by decide) (fun _ _ => hl)
  have hlt := crcM_lt 0 l
  have he : crcS (fun _ => l) 1 = crcM 0 l := rfl
  rw [he] at hof
  generalize crcM 0 l = c at *
  clear he
  have hcv := conv_four (c := c) hlt
  go_enter Try.func17, Try.ntmps17
  go_wp2_with (go_at_call 10; refine (hof _).mono ?_; rintro e w' ⟨rfl, hw'⟩; subst w')
  go_ret
  exact ⟨rfl, (More.alloc _ _).trans (More.alloc _ _)⟩

theorem sealB_len (c : Nat) : (sealB c).length = 4 := rfl
set_option maxRecDepth 1000000 in
theorem crc_Seal (l : List UInt8) (hl : l.length ≤ 1000000) (w : World) :
    Calls Try.prog 11 #[.string (bs l)] w fun e w' => e = .returned (.string (bs (l ++ sealB (crcM 0 l)))) ∧ More w w' := by
  have hs := fun w => crc_seal l (by omega) w
  have hadd : ∀ w, (Op.stringOp .add (bs l) (bs (sealB (crcM 0 l)))).run Try.prog w = .ok (.string (bs (l ++ sealB (crcM 0 l)))) w := fun w => by
    rw [run_string_add_sum w _ _ (by rw [bs_size, bs_size, sealB_len]; omega), bs_append]
  generalize l ++ sealB (crcM 0 l) = z at *
  generalize sealB (crcM 0 l) = y at *
  go_enter Try.func11, Try.ntmps11
  go_wp2_with (go_at_call 17; refine (hs _).mono ?_; rintro e w1 ⟨rfl, hm⟩)
  go_ret
  exact ⟨rfl, hm⟩

/-- What Open tells. -/
def isSealed (l : List UInt8) : Prop := 4 ≤ l.length ∧ l.drop (l.length - 4) = sealB (crcM 0 (l.take (l.length - 4)))

set_option maxRecDepth 1000000 in
theorem crc_Open_short (l : List UInt8) (hl : l.length < 4) (w : World) :
    Calls Try.prog 12 #[.string (bs l)] w fun e w' => e = .returned (.tuple #[.string (bs []), .int .i64 2]) ∧ More w w' := by
  have hsz : (bs l).size = l.length := bs_size l
  generalize l.length = n at *
  go_enter Try.func12, Try.ntmps12
  go_wp2
  go_ret2
  exact ⟨rfl, Below.refl _ _⟩

theorem cslice_from (l : List UInt8) (t : Nat) (z : Int) (hz : z = t) (ht : t ≤ l.length) (w : World) : (Instr.slice 9 (.string (bs l)) (some (.int .i64 z)) none none).run Try.prog w = .ok (.string (bs (l.drop t))) w := by
  subst hz
  rw [run_slice_string_from_if w 9 (bs l) .i64 _ Try.underlying9, if_pos (by rw [bs_size]; omega)]
  rw [Int.toNat_natCast, bs_cut, bs_size, List.take_length]
theorem cslice_to (l : List UInt8) (t : Nat) (z : Int) (hz : z = t) (ht : t ≤ l.length) (w : World) : (Instr.slice 9 (.string (bs l)) none (some (.int .i64 z)) none).run Try.prog w = .ok (.string (bs (l.take t))) w := by
  subst hz
  rw [run_slice_string_to_if w 9 (bs l) .i64 _ Try.underlying9, if_pos (by rw [bs_size]; omega)]
  rw [Int.toNat_natCast, bs_cut, List.drop_zero]

set_option maxHeartbeats 1600000 in
set_option maxRecDepth 1000000 in
theorem crc_Open_good (a : List UInt8) (ha : a.length ≤ 1000000) (w : World) :
    Calls Try.prog 12 #[.string (bs (a ++ sealB (crcM 0 a)))] w fun e w' => e = .returned (.tuple #[.string (bs a), .int .i64 0]) ∧ More w w' := by
  have hs := fun w => crc_seal a (by omega) w
  generalize hbe : sealB (crcM 0 a) = b at *
  have hb : b.length = 4 := by rw [← hbe]; rfl
  have hsz : (bs (a ++ b)).size = a.length + 4 := by rw [bs_size, List.length_append, hb]
  have hto := cslice_to (a ++ b) a.length a.length rfl (by simp)
  have hfr := cslice_from (a ++ b) a.length a.length rfl (by simp)
  rw [List.take_left] at hto
  rw [List.drop_left] at hfr
  generalize a.length = n at *
  generalize a ++ b = l at *
  clear hbe hb
  go_enter Try.func12, Try.ntmps12
  go_wp2_with fail
  go_region_with (go_at_call 17; refine (hs _).mono ?_; rintro e w1 ⟨rfl, hm⟩; have HM := Hid.mk hm; clear hm)
  all_goals
    go_wp2
    go_ret2
    exact ⟨rfl, Below.trans (More.drewN w 1) HM.out⟩

theorem bs_list (a : List UInt8) : (bs a).toList = a := by rw [ByteArray.toList_eq]; simp [bs]
theorem bs_ne {a b : List UInt8} (h : a ≠ b) : ((bs a).toList == (bs b).toList) = false := by rw [bs_list, bs_list]; simpa using h

set_option maxHeartbeats 1600000 in
set_option maxRecDepth 1000000 in
theorem crc_Open_bad (a b : List UInt8) (ha : a.length ≤ 1000000) (hb : b.length = 4) (hne : b ≠ sealB (crcM 0 a)) (w : World) :
    Calls Try.prog 12 #[.string (bs (a ++ b))] w fun e w' => e = .returned (.tuple #[.string (bs []), .int .i64 4]) ∧ More w w' := by
  have hs := fun w => crc_seal a (by omega) w
  have hno := bs_ne hne
  generalize sealB (crcM 0 a) = y at *
  have hsz : (bs (a ++ b)).size = a.length + 4 := by rw [bs_size, List.length_append, hb]
  have hto := cslice_to (a ++ b) a.length a.length rfl (by simp)
  have hfr := cslice_from (a ++ b) a.length a.length rfl (by simp)
  rw [List.take_left] at hto
  rw [List.drop_left] at hfr
  generalize a.length = n at *
  generalize a ++ b = l at *
  clear hne hb
  go_enter Try.func12, Try.ntmps12
  go_wp2_with fail
  go_region_with (go_at_call 17; refine (hs _).mono ?_; rintro e w1 ⟨rfl, hm⟩; have HM := Hid.mk hm; clear hm)
  all_goals
    go_wp2
    go_ret2
    exact ⟨rfl, Below.trans (More.drewN w 1) HM.out⟩
end Go.Proofs.Ytcjckhdjbielhaa
