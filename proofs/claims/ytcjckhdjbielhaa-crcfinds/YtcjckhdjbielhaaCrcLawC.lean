/-
  CrcFinds, walked.
-/
import Derived.Test.YtcjckhdjbielhaaCrcLawA
namespace Go.Proofs.Ytcjckhdjbielhaa
open Go.RowKit

/-- Bytes in memory. -/
def BsAt (W : World) (g : Nat) (z : List UInt8) : Prop := ∀ j, j < z.length → W.cell? ⟨g, j, none⟩ = some (.int .u8 (bt z j : Nat)) ∧ W.frozen? ⟨g, j, none⟩ = false
theorem bt_set (z : List UInt8) (J j X : Nat) (hJ : J < z.length) (hX : X < 256) : bt (z.set J (UInt8.ofNat X)) j = if j = J then X else bt z j := by
  unfold bt
  by_cases h : j = J
  · subst h
    rw [if_pos rfl, List.getElem?_set_self hJ]
    simp
    omega
  · rw [if_neg h, List.getElem?_set_ne (fun e => h e.symm)]
theorem BsAt.set {W : World} {g J X : Nat} {z : List UInt8} (h : BsAt W g z) (hJ : J < z.length) (hX : X < 256) : BsAt (W.setCell ⟨g, J, none⟩ (.int .u8 (X : Nat))) g (z.set J (UInt8.ofNat X)) := fun j hj => by
  rw [List.length_set] at hj
  refine ⟨?_, by rw [World.frozen?_setCell]; exact (h j hj).2⟩
  rw [bt_set z J j X hJ hX]
  by_cases e : j = J
  · subst e
    rw [if_pos rfl]
    exact World.cell?_setCell_same _ _ _ (h j hj).1
  · rw [if_neg e, World.cell?_setCell_other _ _ _ _ (fun e' => e (by have := congrArg Addr.off e'; simpa using this.symm))]
    exact (h j hj).1
/-- The bytes of a text, as a slice of them. -/
theorem bytes_new (z : List UInt8) (w : World) : ∃ W cap, (convert 9 34 (.string (bs z))).run Try.prog w = .ok (.slice (some ⟨w.heap.size, 0, none⟩) (bs z).size cap) W ∧ BsAt W w.heap.size z ∧ More w W := by
  refine ⟨_, _, run_bytes_of_string w 9 34 5 (bs z) Try.underlying9 Try.underlying34 Try.underlying5, ?_, (More.drewN w 1).trans (More.alloc _ _)⟩
  intro j hj
  have hj' : j < (bs z).data.size := by simpa [bs] using hj
  have h1 := World.cell?_alloc_mark w.drew (bytesRow (bs z) (grownCap w (bs z).size 0 5)) 5 ((bytesRow (bs z) (grownCap w (bs z).size 0 5)).size, (bytesRow (bs z) (grownCap w (bs z).size 0 5)).size + 1) j
  have h2 := World.frozen?_alloc_mark w.drew (bytesRow (bs z) (grownCap w (bs z).size 0 5)) 5 (bytesRow (bs z) (grownCap w (bs z).size 0 5)).size ((bytesRow (bs z) (grownCap w (bs z).size 0 5)).size + 1) j
  have hd : w.drew.heap.size = w.heap.size := rfl
  rw [hd] at h1 h2
  have hr := bytesRow_at (bs z) (grownCap w (bs z).size 0 5) j hj'
  refine ⟨h1.trans (hr.trans ?_), h2.trans ?_⟩
  · unfold bt
    rw [List.getElem?_eq_getElem hj]
    rfl
  · have : j < (bytesRow (bs z) (grownCap w (bs z).size 0 5)).size := (Array.getElem?_eq_some_iff.1 hr).1
    rw [decide_eq_false (by omega)]
    rfl

/-- One bit turned. -/
theorem bitOf_set (z : List UInt8) (J q i : Nat) (hJ : J < z.length) (hq : q ≤ 7) : bitOf (z.set J (UInt8.ofNat (bt z J ^^^ 2 ^ q))) i = (bitOf z i ^^ decide (i = 8 * J + (7 - q))) := by
  have hX : bt z J ^^^ 2 ^ q < 256 := Nat.xor_lt_two_pow (n := 8) (bt_lt z J) (Nat.pow_lt_pow_right (by decide) (by omega))
  unfold bitOf
  rw [bt_set z J _ _ hJ hX]
  by_cases h : i / 8 = J
  · rw [if_pos h, Nat.testBit_xor, Nat.testBit_two_pow, h]
    congr 1
    rw [decide_eq_decide]
    omega
  · rw [if_neg h, decide_eq_false (by omega), Bool.xor_false]
/-- Which bits the first k of the mask turn. -/
def turnE (mask n k : Nat) (i : Nat) : Bool := decide (n ≤ i) && decide (i < n + k) && mask.testBit (i - n)
theorem turnE_zero (mask n i : Nat) : turnE mask n 0 i = false := by
  unfold turnE
  by_cases h : n ≤ i
  · rw [decide_eq_false (show ¬ i < n + 0 by omega)]; simp
  · rw [decide_eq_false h]; rfl
theorem turnE_succ (mask n k i : Nat) : turnE mask n (k + 1) i = (turnE mask n k i ^^ (decide (i = n + k) && mask.testBit k)) := by
  unfold turnE
  by_cases h : i = n + k
  · subst h
    rw [decide_eq_true (show n ≤ n + k by omega), decide_eq_true (show n + k < n + (k + 1) by omega), decide_eq_false (show ¬ n + k < n + k by omega), show n + k - n = k by omega]
    simp
  · rw [decide_eq_false h]
    by_cases h1 : n ≤ i
    · by_cases h2 : i < n + k
      · rw [decide_eq_true h1, decide_eq_true h2, decide_eq_true (show i < n + (k + 1) by omega)]; simp
      · rw [decide_eq_true h1, decide_eq_false h2, decide_eq_false (show ¬ i < n + (k + 1) by omega)]; simp
    · rw [decide_eq_false h1]; simp
/-- What is turned is not what is sealed. -/
theorem finds_not (l z' : List UInt8) (mask n : Nat) (hlen : z'.length = l.length + 4) (hn : n + 32 ≤ 8 * (l.length + 4)) (hm : mask < 4294967296) (hm0 : mask ≠ 0)
    (h : ∀ i, i < 8 * (l.length + 4) → bitOf z' i = (bitOf (l ++ sealB (crcM 0 l)) i ^^ turnE mask n 32 i)) : z'.drop l.length ≠ sealB (crcM 0 (z'.take l.length)) := by
  intro e
  have he : z' = z'.take l.length ++ sealB (crcM 0 (z'.take l.length)) := by rw [← e, List.take_append_drop]
  have hE := turned_found l (z'.take l.length) (by rw [List.length_take]; omega) (turnE mask n 32) n hn (fun i hi => by unfold turnE; rw [decide_eq_false (by omega)]; rfl) (fun i hi => by unfold turnE; rw [decide_eq_false (show ¬ i < n + 32 by omega)]; simp) (by rw [← he]; exact h)
  refine hm0 (bits32_zero hm fun i hi => ?_)
  have := hE (n + i)
  unfold turnE at this
  rw [decide_eq_true (by omega), decide_eq_true (by omega), show n + i - n = i by omega] at this
  simpa using this

set_option maxHeartbeats 3200000 in
set_option maxRecDepth 1000000 in
theorem finds_other (l : List UInt8) (at_ mask : Nat) (hl : l.length ≤ 9223372036854775807) (h : 500 < l.length ∨ mask = 0) (w : World) :
    Calls Try.prog 6 #[.string (bs l), .int .u16 at_, .int .u32 mask] w fun e w' => e = .returned (.bool true) ∧ More w w' := by
  have hlv := fun w => live_true w
  have hsz : (bs l).size = l.length := bs_size l
  generalize l.length = n at *
  by_cases h1 : 500 < n
  · have h1' : (500 : Int) < n := by omega
    clear h
    go_enter Try.func6, Try.ntmps6
    go_wp2_with (go_at_call 7; refine (hlv _).mono ?_; rintro e w1 ⟨rfl, hm⟩)
    go_ret
    exact ⟨rfl, hm⟩
  · obtain rfl : mask = 0 := by omega
    have h1' : ¬ (500 : Int) < n := by omega
    clear h
    go_enter Try.func6, Try.ntmps6
    go_wp2_with (go_at_call 7; refine (hlv _).mono ?_; rintro e w1 ⟨rfl, hm⟩)
    go_ret
    exact ⟨rfl, hm⟩

set_option maxHeartbeats 6400000 in
set_option maxRecDepth 1000000 in
theorem finds_one (l : List UInt8) (at_ mask : Nat) (hl : l.length ≤ 500) (hat : at_ < 65536) (hm : mask < 4294967296) (hm0 : mask ≠ 0) (w : World) :
    Calls Try.prog 6 #[.string (bs l), .int .u16 at_, .int .u32 mask] w fun e w' => e = .returned (.bool true) ∧ More w w' := by
  have hlv := fun w => live_true w
  have hsz : (bs l).size = l.length := bs_size l
  have hS := fun w => crc_Seal l (by omega) w
  have hm0' : ((mask : Int) == 0) = false := by simp; omega
  have HF := Hid.mk (fun z' n => finds_not l z' mask n)
  have HB := Hid.mk (fun (a b : List UInt8) (ha : a.length ≤ 500) (hb : b.length = 4) (hne : b ≠ sealB (crcM 0 a)) (w : World) => crc_Open_bad a b (by omega) hb hne w)
  obtain ⟨z, hz⟩ : ∃ z, l ++ sealB (crcM 0 l) = z := ⟨_, rfl⟩
  rw [hz] at hS HF
  have hzl : z.length = l.length + 4 := by rw [← hz, List.length_append]; rfl
  have hzs : (bs z).size = l.length + 4 := by rw [bs_size, hzl]
  have hbn := bytes_new z
  rw [hzs] at hbn
  clear hz
  generalize l.length = n at *
  have HZ := Hid.mk hzl
  clear hzl hzs
  have HM := Hid.mk (And.intro hm hm0)
  clear hm0
  have hnil : (bs []).toList = [] := bs_list []
  obtain ⟨p, hp, hp32⟩ : ∃ p : Nat, (at_ : Int) % (8 * ((n : Int) + 4) - 31) = (p : Int) ∧ p + 32 ≤ 8 * (n + 4) := by
    have h1 := Int.emod_nonneg (at_ : Int) (show 8 * ((n : Int) + 4) - 31 ≠ 0 by omega)
    have h2 := Int.emod_lt_of_pos (at_ : Int) (show 0 < 8 * ((n : Int) + 4) - 31 by omega)
    obtain ⟨p, hp⟩ := Int.eq_ofNat_of_zero_le h1
    exact ⟨p, hp, by omega⟩
  obtain ⟨r, hr⟩ : ∃ r, p % 8 = r := ⟨_, rfl⟩
  have hri : (p : Int) % 8 = (r : Int) := by omega
  have hr8 : r < 8 := by omega
  have HR := Hid.mk hr
  clear hr
  go_enter Try.func6, Try.ntmps6
  go_wp2_with (go_at_call 11; refine (hS _).mono ?_; rintro e w1 ⟨rfl, hm1⟩; obtain ⟨W, cap, hcv, hbs, hmW⟩ := hbn w1; have H1 := Hid.mk (And.intro hbs (And.intro (More.trans hm1 hmW) hm1.size)); obtain ⟨g, hg⟩ : ∃ g, w1.heap.size = g := ⟨_, rfl⟩; rw [hg] at hcv H1; clear hbn hS hbs hm1 hmW hg)
  go_loop [10, 11] (fun o c => ∃ i O : Nat, i ≤ r ∧ c = .int .i64 i ∧ o = .int .u8 O ∧ O ≤ 128 ∧ Hid (O = 2 ^ (7 - i))) (fun _ c => r - (intOf c).toNat)
  case atStart => exact ⟨0, 128, by omega, rfl, rfl, by omega, Hid.mk rfl⟩
  case round =>
    obtain ⟨i, O, hi, rfl, rfl, hO, HO⟩ := hrel
    by_cases hlt : i < r
    · have HO2 := Hid.mk (show O / 2 = 2 ^ (7 - (i + 1)) by rw [HO.out, show 7 - i = 7 - (i + 1) + 1 by omega, Nat.pow_succ]; omega)
      go_wp2
      exact ⟨⟨i + 1, O / 2, by omega, by go_num, by go_num, by omega, HO2⟩, by simp [intOf]; omega⟩
    · obtain rfl : i = r := by omega
      have HO2 := Hid.mk (show O = 2 ^ (7 - (p + 0) % 8) by rw [HO.out, Nat.add_zero, HR.out])
      go_wp2
      clear hcv hlt HO hi hri hp hr8
      go_loopw [9, 10, 12] (fun lf on c wr => ∃ I L O : Nat, p ≤ I ∧ I ≤ p + 32 ∧ c = .int .i64 I ∧ lf = .int .u64 L ∧ on = .int .u8 O ∧ L < 4294967296 ∧ O ≤ 128 ∧
        Hid (L = mask / 2 ^ (I - p) ∧ O = 2 ^ (7 - I % 8)) ∧ Hid (∃ z', z'.length = n + 4 ∧ BsAt wr g z' ∧ (∀ j, bitOf z' j = (bitOf z j ^^ turnE mask p (I - p) j)) ∧ More w wr)) (fun _ _ c _ => p + 32 - (intOf c).toNat)
      case atStart => exact ⟨p, mask, O, by omega, by omega, rfl, rfl, rfl, hm, hO, Hid.mk ⟨by simp, HO2.out⟩, Hid.mk ⟨z, HZ.out, H1.out.1, fun j => by rw [Nat.sub_self, turnE_zero, Bool.xor_false], H1.out.2.1⟩⟩
      case round =>
        clear HO2
        obtain ⟨I, L, O, hI1, hI2, rfl, rfl, rfl, hL, hO, HLO, HW⟩ := hrel
        obtain ⟨z', hz1, hz2, hz3, hz4⟩ := HW.out
        have hO0 : 1 ≤ O := by rw [HLO.out.2]; exact Nat.two_pow_pos _
        by_cases hlt : I < p + 32
        · have hJ8 : I / 8 < n + 4 := by omega
          obtain ⟨J, hJ⟩ : ∃ J, I / 8 = J := ⟨_, rfl⟩
          have hJi : (I : Int) / 8 = (J : Int) := by omega
          rw [hJ] at hJ8
          have hcj := (hz2 J (by omega)).1
          have hfj := (hz2 J (by omega)).2
          have hX := bt_lt z' J
          have hx := u8_xor_nat (bt z' J) O hX (by omega)
          have hY : bt z' J ^^^ O < 256 := Nat.xor_lt_two_pow (n := 8) hX (by omega)
          have HJ := Hid.mk hJ
          obtain ⟨Q, hQ⟩ : ∃ Q, O / 2 = Q := ⟨_, rfl⟩
          have hQi : (O : Int) / 2 = (Q : Int) := by omega
          have HQ := Hid.mk hQ
          have hnx : Hid ((Q = 0 → (128 : Nat) = 2 ^ (7 - (I + 1) % 8)) ∧ (Q ≠ 0 → Q = 2 ^ (7 - (I + 1) % 8))) := by
            refine Hid.mk ?_
            by_cases h7 : I % 8 = 7
            · have : O = 1 := by rw [HLO.out.2, h7]
              refine ⟨fun _ => by rw [show (I + 1) % 8 = 0 by omega], fun h => by omega⟩
            · have e : O = 2 ^ (7 - (I + 1) % 8) * 2 := by rw [HLO.out.2, ← Nat.pow_succ]; congr 1; omega
              have := Nat.two_pow_pos (7 - (I + 1) % 8)
              exact ⟨fun h => by omega, fun _ => by omega⟩
          have hQ128 : Q ≤ 128 := by omega
          have hbits := Hid.mk (show ∀ j, bitOf (z'.set J (UInt8.ofNat (bt z' J ^^^ O))) j = (bitOf z' j ^^ decide (j = I)) from fun j => by
            rw [HLO.out.2, bitOf_set z' J (7 - I % 8) j (by omega) (by omega)]
            congr 2
            rw [eq_iff_iff]
            omega)
          have hset := Hid.mk (hz2.set (J := J) (X := bt z' J ^^^ O) (by omega) hY)
          have HL := Hid.mk (show L / 2 = mask / 2 ^ (I + 1 - p) ∧ (mask.testBit (I - p) = decide (L % 2 = 1)) by
            rw [HLO.out.1]
            refine ⟨by rw [Nat.div_div_eq_div_mul, ← Nat.pow_succ]; congr 2; omega, by rw [Nat.testBit_eq_decide_div_mod_eq]⟩)
          have HZ' := Hid.mk (And.intro hz1 (And.intro hz2 (And.intro hz3 hz4)))
          obtain ⟨X, hXe⟩ : ∃ X, bt z' J = X := ⟨_, rfl⟩
          obtain ⟨Y, hYe⟩ : ∃ Y, X ^^^ O = Y := ⟨_, rfl⟩
          rw [hXe] at hcj hx hX hY hset hbits
          rw [hYe] at hx hY hset hbits
          clear hXe hYe hJ hQ hz1 hz2 hz3 hz4 HW
          have hgw : w.heap.size ≤ g := H1.out.2.2
          have HE := Hid.mk (show I + 1 - p = I - p + 1 ∧ p + (I - p) = I by omega)
          by_cases hb : L % 2 = 1
          · have hbi : (L : Int) % 2 = 1 := by omega
            have HN := Hid.mk (show ∃ z'', z''.length = n + 4 ∧ BsAt (wr.setCell ⟨g, J, none⟩ (.int .u8 (Y : Nat))) g z'' ∧ (∀ j, bitOf z'' j = (bitOf z j ^^ turnE mask p (I + 1 - p) j)) ∧ More w (wr.setCell ⟨g, J, none⟩ (.int .u8 (Y : Nat))) from
              ⟨_, by rw [List.length_set]; exact HZ'.out.1, hset.out, fun j => by rw [hbits.out, HZ'.out.2.2.1 j, HE.out.1, turnE_succ, HE.out.2, HL.out.2, decide_eq_true hb, Bool.and_true, Bool.xor_assoc], HZ'.out.2.2.2.setCell (p := ⟨g, J, none⟩) hgw _⟩)
            clear hset hbits
            by_cases hq : Q = 0
            · subst hq
              go_wp2
              exact ⟨⟨I + 1, L / 2, 128, by omega, by omega, by go_num, by go_num, by go_num, by omega, by omega, Hid.mk ⟨HL.out.1, hnx.out.1 rfl⟩, HN⟩, by simp [intOf]; omega⟩
            · have hq' : ((Q : Int) == 0) = false := by simp; omega
              go_wp2
              exact ⟨⟨I + 1, L / 2, Q, by omega, by omega, by go_num, by go_num, by go_num, by omega, by omega, Hid.mk ⟨HL.out.1, hnx.out.2 hq⟩, HN⟩, by simp [intOf]; omega⟩
          · have hbi : (L : Int) % 2 = 0 := by omega
            have HN := Hid.mk (show ∃ z'', z''.length = n + 4 ∧ BsAt wr g z'' ∧ (∀ j, bitOf z'' j = (bitOf z j ^^ turnE mask p (I + 1 - p) j)) ∧ More w wr from
              ⟨_, HZ'.out.1, HZ'.out.2.1, fun j => by rw [HZ'.out.2.2.1 j, HE.out.1, turnE_succ, HE.out.2, HL.out.2, decide_eq_false hb, Bool.and_false, Bool.xor_false], HZ'.out.2.2.2⟩)
            clear hset hbits
            by_cases hq : Q = 0
            · subst hq
              go_wp2
              exact ⟨⟨I + 1, L / 2, 128, by omega, by omega, by go_num, by go_num, by go_num, by omega, by omega, Hid.mk ⟨HL.out.1, hnx.out.1 rfl⟩, HN⟩, by simp [intOf]; omega⟩
            · have hq' : ((Q : Int) == 0) = false := by simp; omega
              go_wp2
              exact ⟨⟨I + 1, L / 2, Q, by omega, by omega, by go_num, by go_num, by go_num, by omega, by omega, Hid.mk ⟨HL.out.1, hnx.out.2 hq⟩, HN⟩, by simp [intOf]; omega⟩
        · obtain rfl : I = p + 32 := by omega
          have hno := HF.out z' p hz1 hp32 HM.out.1 HM.out.2 (fun j _ => by rw [hz3 j, show p + 32 - p = 32 by omega])
          have hcv := conv_bytes z' (n + 4) cap hz1 wr g (fun j hj => (hz2 j (by omega)).1)
          have hop := HB.out (z'.take n) (z'.drop n) (by rw [List.length_take]; omega) (by rw [List.length_drop]; omega) hno
          rw [List.take_append_drop] at hop
          have HMo := Hid.mk hz4
          clear hno hz1 hz2 hz3 hz4 HW HLO hO0
          go_wp2_with (first
            | (go_at_call 12; refine (hop _).mono ?_; rintro e w2 ⟨rfl, hm2⟩; have H2 := Hid.mk (HMo.out.trans hm2); clear hm2)
            | (go_at_call 7; refine (hlv _).mono ?_; rintro e w3 ⟨rfl, hm3⟩; have H3 := Hid.mk (H2.out.trans hm3); clear hm3))
          go_ret
          exact ⟨rfl, H3.out⟩

theorem crcFinds (l : List UInt8) (at_ mask : Nat) (hl : l.length ≤ 9223372036854775807) (hat : at_ < 65536) (hm : mask < 4294967296) (w : World) :
    Calls Try.prog 6 #[.string (bs l), .int .u16 at_, .int .u32 mask] w fun e w' => e = .returned (.bool true) ∧ More w w' := by
  by_cases h : 500 < l.length ∨ mask = 0
  · exact finds_other l at_ mask hl h w
  · exact finds_one l at_ mask (by omega) hat hm (by omega) w
end Go.Proofs.Ytcjckhdjbielhaa
