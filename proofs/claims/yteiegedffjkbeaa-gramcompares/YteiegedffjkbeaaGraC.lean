/-
  gram: Key.
-/
import Derived.Test.YteiegedffjkbeaaGraB
import Derived.Test.YteiegedffjkbeaaGraKey
namespace Go.Proofs.Yteiegedffjkbeaa
open Go.RowKit

theorem Try.infoU8 : (Try.prog.info? 5).map (fun i => (i.zero, i.size, i.bytes)) = some (some (.int .u8 0), 1, 1) := by kernel_rfl
/-- Bytes as values. -/
def u8v (l : List UInt8) : List Value := l.map fun b => .int .u8 b.toNat
theorem u8v_len (l : List UInt8) : (u8v l).length = l.length := by simp [u8v]
theorem u8v_app (l m : List UInt8) : u8v (l ++ m) = u8v l ++ u8v m := by simp [u8v]

/-- It is a number that no key has. -/
def badW (x : Int) : Bool := decide (x < 0) || decide (16777216 ≤ x)
theorem badW_ok (x : Int) : badW x = !decide (0 ≤ x ∧ x < 16777216) := by
  unfold badW
  by_cases h : 0 ≤ x ∧ x < 16777216
  · rw [decide_eq_true h]; simp; omega
  · rw [decide_eq_false h]; simp; omega
theorem key_clo (x : Int) (w : World) : Calls Try.prog 27 #[.int .i64 x] w fun e w' => e = .returned (.bool (badW x)) ∧ w' = w := by
  by_cases h1 : x < 0
  · go_enter Try.func27, Try.ntmps27
    go_wp2
    go_ret
    exact ⟨by simp [badW, h1], rfl⟩
  · have h2 : ¬ x < 0 := h1
    go_enter Try.func27, Try.ntmps27
    go_wp2
    go_ret
    exact ⟨by simp [badW]; omega, rfl⟩

set_option maxRecDepth 1000000 in
set_option maxHeartbeats 1600000 in
theorem key_idx (va : Value) (a : List Int) (w : World) (ha : IL w va a) (hn : a.length ≤ 1000000) :
    Calls Try.prog 34 #[va, .func (.func 27) #[] #[]] w fun e w' => (∃ i : Int, e = .returned (.int .i64 i) ∧ (0 ≤ i ↔ okG a = false)) ∧ w' = w := by
  obtain ⟨ao, ca, rfl⟩ := ha.shape
  obtain ⟨n, hnn⟩ : ∃ n, a.length = n := ⟨_, rfl⟩
  have HA := Hid.mk (fun j (hj : j < n) => ha.cell (j := j) (by omega))
  have HN := Hid.mk (fun i (hi : i < n) (h : ¬ (0 ≤ a.getD i 0 ∧ a.getD i 0 < 16777216)) => okG_not (g := a) (i := i) (by omega) h)
  have HY := Hid.mk (fun (h : ∀ i, i < n → 0 ≤ a.getD i 0 ∧ a.getD i 0 < 16777216) => okG_all (g := a) (by rw [hnn]; exact h))
  rw [hnn] at hn ⊢
  generalize okG a = ok at *
  have hcl := key_clo
  clear ha hnn
  go_enter Try.func34, Try.ntmps34
  go_wp2
  go_loopw [8] (fun k wr => ∃ r : Nat, r ≤ n ∧ k = .int .i64 r ∧ (∀ j, j < r → 0 ≤ a.getD j 0 ∧ a.getD j 0 < 16777216) ∧ wr = w) (fun k _ => n - (intOf k).toNat)
  case atStart => exact ⟨0, by omega, rfl, (fun j h => by omega), rfl⟩
  case round =>
    obtain ⟨r, hr, rfl, hall, rfl⟩ := hrel
    have HL := Hid.mk hall
    clear hall
    by_cases hlt : r < n
    · obtain ⟨g1, o1, rfl, _, c1⟩ := HA.out r hlt
      have HNr := Hid.mk (HN.out r hlt)
      obtain ⟨x, hx⟩ : ∃ x, a.getD r 0 = x := ⟨_, rfl⟩
      rw [hx] at c1 HNr
      have HX := Hid.mk hx
      have hb := badW_ok x
      have hcx := hcl x wr
      obtain ⟨B, hB⟩ : ∃ B, badW x = B := ⟨_, rfl⟩
      rw [hB] at hb hcx
      have HB := Hid.mk hb
      clear hx hb hB hcl
      cases B with
      | false =>
        go_wp2_with (go_at_call 27; refine hcx.mono ?_; rintro e w' ⟨rfl, hw'⟩; subst w')
        go_roundw
        case rel => exact ⟨r + 1, by omega, by go_num, (fun j hj => by
          by_cases hjr : j = r
          · subst hjr; have := HB.out; rw [HX.out]; simpa using this
          · exact HL.out j (by omega)), by trivial⟩
        case measure => simp [intOf]; omega
      | true =>
        go_wp2_with (go_at_call 27; refine hcx.mono ?_; rintro e w' ⟨rfl, hw'⟩; subst w')
        go_ret
        exact ⟨⟨_, rfl, ⟨fun _ => HNr.out (by have := HB.out; simp at this; omega), fun _ => by omega⟩⟩, rfl⟩
    · obtain rfl : r = n := by omega
      have HT := Hid.mk (HY.out HL.out)
      go_wp2
      go_ret
      exact ⟨⟨_, rfl, ⟨fun h => by omega, fun h => by rw [HT.out] at h; cases h⟩⟩, rfl⟩
theorem key_has (va : Value) (a : List Int) (w : World) (ha : IL w va a) (hn : a.length ≤ 1000000) :
    Calls Try.prog 26 #[va, .func (.func 27) #[] #[]] w fun e w' => e = .returned (.bool (!okG a)) ∧ w' = w := by
  have hi := key_idx va a w ha hn
  obtain ⟨ao, ca, rfl⟩ := ha.shape
  generalize okG a = ok at *
  clear ha
  generalize a.length = n at *
  go_enter Try.func26, Try.ntmps26
  go_wp2_with (go_at_call 34; refine hi.mono ?_; rintro e w' ⟨⟨i, rfl, hiff⟩, hw'⟩; subst w'; have HI := Hid.mk hiff; clear hiff)
  go_ret
  refine ⟨?_, rfl⟩
  have := HI.out
  cases ok with
  | false => simp at this ⊢; omega
  | true => simp at this ⊢; omega

theorem more_none {w w' : World} (hg : w.grownBy w' none) : More w w' := ⟨hg.os, hg.tape, hg.output, hg.size, fun k hk => hg.block k hk (by simp)⟩
theorem one_byte (x : Int) : ∀ u ∈ [Value.int .u8 x], u.oneCell' = true := by intro u hu; simp at hu; subst hu; rfl
theorem conv_any (v : Value) (l : List UInt8) (w : World) (B : Nat) (h : w.ownsRow B 5 1 v l.length (u8v l)) : (convert 47 9 v).run Try.prog w = .ok (.string (bs l)) w := by
  rcases h.2 with ⟨hv, hn⟩ | ⟨g, cap, cur, hv, h1, h2, h3, h4, h5, h6⟩
  · obtain rfl : l = [] := List.eq_nil_of_length_eq_zero hn
    subst hv
    exact run_convert_bytes_string w 47 9 5 none _ _ Try.underlying47 Try.underlying5 Try.underlying9
  · subst hv
    refine run_convert_bytes_back w 47 9 5 _ cap l Try.underlying47 Try.underlying5 Try.underlying9 (fun j hj => ?_)
    rw [show (⟨g, 0, none⟩ : Addr).add j = ⟨g, j, none⟩ by simp [Addr.add]; omega, h.cellAt j (by omega)]
    simp [u8v, hj]
/-- A byte of a number. -/
theorem kb_at (x : Nat) (i : Nat) (h : i < 3) : (kb x).take (i + 1) = (kb x).take i ++ [UInt8.ofNat (x / 2 ^ (8 * (2 - i)))] := by
  rcases (show i = 0 ∨ i = 1 ∨ i = 2 by omega) with rfl | rfl | rfl <;> simp [kb]
set_option maxRecDepth 1000000 in
set_option maxHeartbeats 3200000 in
theorem gr_key (va : Value) (a : List Int) (w : World) (ha : IL w va a) (hn : a.length ≤ 1000000) (hok : okG a = true) :
    Calls Try.prog 12 #[va] w fun e w' => e = .returned (.tuple #[.string (bs (keyL a)), .int .i64 0]) ∧ More w w' := by
  obtain ⟨i0, hi, hz0, hz1, hz2⟩ := info_parts Try.infoU8
  have hh := key_has va a w ha hn
  rw [hok] at hh
  obtain ⟨ao, ca, rfl⟩ := ha.shape
  obtain ⟨n, hnn⟩ : ∃ n, a.length = n := ⟨_, rfl⟩
  have HA := Hid.mk (fun j (hj : j < n) => ha.cell (j := j) (by omega))
  have HO := Hid.mk (fun j (hj : j < n) => okG_at hok (i := j) (by omega))
  have HK := Hid.mk (fun j (hj : j < n) => keyL_take (g := a) (r := j) (by omega))
  have HT := Hid.mk (show a.take n = a by rw [← hnn, List.take_length])
  obtain ⟨K, hKe⟩ : ∃ K, keyL a = K := ⟨_, rfl⟩
  have HKE := Hid.mk (And.intro hKe (show K.length = 3 * n by rw [← hKe, keyL_len, hnn]))
  rw [hKe]
  have HKL := Hid.mk (fun j (hj : j ≤ n) => (show (keyL (a.take j)).length = 3 * j by rw [keyL_len, List.length_take]; omega))
  rw [hnn] at hn hh ⊢
  clear ha hok hnn hKe
  go_enter Try.func12, Try.ntmps12
  go_wp2_with (first
    | (go_at_call 26; refine hh.mono ?_; rintro e w' ⟨rfl, hw'⟩; subst w')
    | (refine wpList_make_own _ rfl _ _ 47 rfl w.heap.size 5 i0 (.int .u8 0) 1 Try.underlying47 hi hz0 hz1 .i64 .i64 (3 * (n : Int)) (3 * n) rfl rfl (by omega) (by rw [hz2]; omega) (by unfold maxLen; omega) (Nat.le_refl _) ?_; intro w1 hown hgrow; have H1 := Hid.mk (And.intro hown hgrow); clear hown hgrow))
  go_loopw [4, 16] (fun x k wr => ∃ r : Nat, r ≤ n ∧ k = .int .i64 r ∧ wr.ownsRow w.heap.size 5 1 x (3 * r) (u8v (keyL (a.take r))) ∧ More w wr) (fun _ k _ => n - (intOf k).toNat)
  case atStart => exact ⟨0, by omega, rfl, H1.out.1, more_none H1.out.2⟩
  case round =>
    obtain ⟨r, hr, rfl, hR, hM⟩ := hrel
    obtain ⟨xo, xc, rfl⟩ := wshape_of hR
    by_cases hlt : r < n
    · obtain ⟨g1, o1, rfl, hb, c1⟩ := HA.out r hlt
      have c1 := (hM.cell (p := ⟨g1, o1 + r, none⟩) hb).trans c1
      obtain ⟨hw1, hw2⟩ := HO.out r hlt
      have HX := Hid.mk (HK.out r hlt)
      have HL3 := Hid.mk (HKL.out r (by omega))
      obtain ⟨x, hx⟩ : ∃ x : Nat, a.getD r 0 = (x : Int) := ⟨(a.getD r 0).toNat, by omega⟩
      rw [hx] at c1 hw1 hw2 HX
      have hxl : x < 16777216 := by omega
      obtain ⟨G, hG⟩ : ∃ G, keyL (a.take r) = G := ⟨_, rfl⟩
      rw [hG] at hR HX HL3
      have HM := Hid.mk (And.intro hR hM)
      clear hR hM hb hx hG hw1 hw2
      go_wp2
      go_loopw [4, 20] (fun y k wr => ∃ q : Nat, q ≤ 3 ∧ k = .int .i64 q ∧ wr.ownsRow w.heap.size 5 1 y (3 * r + q) (u8v (G ++ (kb x).take q)) ∧ More w wr) (fun _ k _ => 3 - (intOf k).toNat)
      case atStart => exact ⟨0, by omega, rfl, by simpa using HM.out.1, HM.out.2⟩
      case round =>
        obtain ⟨q, hq, rfl, hR, hM⟩ := hrel
        obtain ⟨yo, yc, rfl⟩ := wshape_of hR
        by_cases hq3 : q < 3
        · have hkb := kb_at x q hq3
          obtain ⟨V, hV⟩ : ∃ V : Nat, (UInt8.ofNat (x / 2 ^ (8 * (2 - q)))).toNat = V := ⟨_, rfl⟩
          have hVe : x / 2 ^ (8 * (2 - q)) % 256 = V := by
            rw [← hV, UInt8.toNat_ofNat']
          obtain ⟨m, hm⟩ : ∃ m, 3 * r + q = m := ⟨_, rfl⟩
          rw [hm] at hR ⊢
          have HY := Hid.mk (And.intro (show u8v (G ++ (kb x).take (q + 1)) = u8v (G ++ (kb x).take q) ++ [.int .u8 V] by rw [hkb, ← List.append_assoc, u8v_app, ← hV]; rfl) (And.intro hR hM))
          have hml : m ≤ 3000000 := by omega
          have HQ := Hid.mk (show 3 * r + (q + 1) = m + 1 by omega)
          clear hkb hV hR hM hm
          rcases (show q = 0 ∨ q = 1 ∨ q = 2 by omega) with rfl | rfl | rfl
          all_goals
            simp at hVe
          · have hv : (x : Int) / 65536 = V := by omega
            clear hVe
            go_wp2_with (at_builtin; refine wpList_append_own_at _ rfl (.tmp 23) (.tmp 30) 47 rfl w.heap.size 5 i0 (.int .u8 0) 1 1 Try.underlying47 hi hz0 hz1 hz2 rfl (by decide) _ _ _ rfl (More.own HY.out.2.1 (more_alloc wr (.cells #[.int .u8 V] 5))) ⟨wr.heap.size, 0, none⟩ 1 1 [.int .u8 V] rfl rfl (one_cell _ _ _) (one_byte _) ?c3 ?c4 ?c5 ?_)
            case c3 => unfold maxLen; omega
            case c4 => omega
            case c5 => have := HY.out.2.2.size; simp; omega
            intro v' w4 hown4 hgrow _ _
            have HN := Hid.mk (And.intro (show w4.ownsRow w.heap.size 5 1 v' (3 * r + (0 + 1)) (u8v (G ++ (kb x).take (0 + 1))) by rw [HY.out.1, HQ.out]; simpa using hown4) ((More.trans HY.out.2.2 (more_alloc wr _)).grown hgrow (by have := HY.out.2.2.size; simp; omega) (fun k hk => (World.ownsRow.lt HY.out.2.1 k hk).1)))
            obtain ⟨ao4, cap4, rfl⟩ := wshape_of hown4
            clear hown4 hgrow
            go_wp2
            go_roundw
            case rel => exact ⟨0 + 1, by omega, by go_num, HN.out.1, HN.out.2⟩
            case measure => simp [intOf]
          · have hv : (x : Int) / 256 % 256 = V := by omega
            clear hVe
            go_wp2_with (at_builtin; refine wpList_append_own_at _ rfl (.tmp 23) (.tmp 30) 47 rfl w.heap.size 5 i0 (.int .u8 0) 1 1 Try.underlying47 hi hz0 hz1 hz2 rfl (by decide) _ _ _ rfl (More.own HY.out.2.1 (more_alloc wr (.cells #[.int .u8 V] 5))) ⟨wr.heap.size, 0, none⟩ 1 1 [.int .u8 V] rfl rfl (one_cell _ _ _) (one_byte _) ?c3 ?c4 ?c5 ?_)
            case c3 => unfold maxLen; omega
            case c4 => omega
            case c5 => have := HY.out.2.2.size; simp; omega
            intro v' w4 hown4 hgrow _ _
            have HN := Hid.mk (And.intro (show w4.ownsRow w.heap.size 5 1 v' (3 * r + (1 + 1)) (u8v (G ++ (kb x).take (1 + 1))) by rw [HY.out.1, HQ.out]; exact hown4) ((More.trans HY.out.2.2 (more_alloc wr _)).grown hgrow (by have := HY.out.2.2.size; simp; omega) (fun k hk => (World.ownsRow.lt HY.out.2.1 k hk).1)))
            obtain ⟨ao4, cap4, rfl⟩ := wshape_of hown4
            clear hown4 hgrow
            go_wp2
            go_roundw
            case rel => exact ⟨1 + 1, by omega, by go_num, HN.out.1, HN.out.2⟩
            case measure => simp [intOf]
          · have hv : (x : Int) % 256 = V := by omega
            clear hVe
            go_wp2_with (at_builtin; refine wpList_append_own_at _ rfl (.tmp 23) (.tmp 30) 47 rfl w.heap.size 5 i0 (.int .u8 0) 1 1 Try.underlying47 hi hz0 hz1 hz2 rfl (by decide) _ _ _ rfl (More.own HY.out.2.1 (more_alloc wr (.cells #[.int .u8 V] 5))) ⟨wr.heap.size, 0, none⟩ 1 1 [.int .u8 V] rfl rfl (one_cell _ _ _) (one_byte _) ?c3 ?c4 ?c5 ?_)
            case c3 => unfold maxLen; omega
            case c4 => omega
            case c5 => have := HY.out.2.2.size; simp; omega
            intro v' w4 hown4 hgrow _ _
            have HN := Hid.mk (And.intro (show w4.ownsRow w.heap.size 5 1 v' (3 * r + (2 + 1)) (u8v (G ++ (kb x).take (2 + 1))) by rw [HY.out.1, HQ.out]; exact hown4) ((More.trans HY.out.2.2 (more_alloc wr _)).grown hgrow (by have := HY.out.2.2.size; simp; omega) (fun k hk => (World.ownsRow.lt HY.out.2.1 k hk).1)))
            obtain ⟨ao4, cap4, rfl⟩ := wshape_of hown4
            clear hown4 hgrow
            go_wp2
            go_roundw
            case rel => exact ⟨2 + 1, by omega, by go_num, HN.out.1, HN.out.2⟩
            case measure => simp [intOf]
        · obtain rfl : q = 3 := by omega
          have HN := Hid.mk (And.intro (show wr.ownsRow w.heap.size 5 1 (.slice yo (3 * r + 3) yc) (3 * (r + 1)) (u8v (keyL (a.take (r + 1)))) by rw [HX.out, show 3 * (r + 1) = 3 * r + 3 by omega]; exact hR) hM)
          clear hR hM
          go_wp2
          go_roundw
          case rel => exact ⟨r + 1, by omega, by go_num, HN.out.1, HN.out.2⟩
          case measure => simp [intOf]; omega
    · obtain rfl : r = n := by omega
      rw [HT.out, HKE.out.1] at hR
      have hcv := conv_any _ K wr w.heap.size (by rw [HKE.out.2]; exact hR)
      have HM := Hid.mk hM
      clear hR hM
      go_wp2
      go_ret2
      exact ⟨rfl, HM.out⟩
end Go.Proofs.Yteiegedffjkbeaa
