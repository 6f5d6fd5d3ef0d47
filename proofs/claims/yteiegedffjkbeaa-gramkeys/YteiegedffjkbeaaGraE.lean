/-
  gram: the document's Key.
-/
import Derived.Test.YteiegedffjkbeaaGraD
namespace Go.Proofs.Yteiegedffjkbeaa
open Go.RowKit

theorem conv_three (x y z : Nat) (hx : x < 256) (hy : y < 256) (hz : z < 256) (w : World) (g : Nat) (h0 : w.cell? ⟨g, 0, none⟩ = some (.int .u8 x)) (h1 : w.cell? ⟨g, 1, none⟩ = some (.int .u8 y)) (h2 : w.cell? ⟨g, 2, none⟩ = some (.int .u8 z)) :
    (convert 47 9 (.slice (some ⟨g, 0, none⟩) 3 3)).run Try.prog w = .ok (.string (bs [UInt8.ofNat x, UInt8.ofNat y, UInt8.ofNat z])) w := by
  refine run_convert_bytes_back w 47 9 5 _ 3 [UInt8.ofNat x, UInt8.ofNat y, UInt8.ofNat z] Try.underlying47 Try.underlying5 Try.underlying9 (fun j hj => ?_)
  match j, hj with
  | 0, _ => rw [Addr.add_lit, h0]; simp; omega
  | 1, _ => rw [Addr.add_lit, h1]; simp; omega
  | 2, _ => rw [Addr.add_lit, h2]; simp; omega
theorem kb_three (x : Nat) : kb x = [UInt8.ofNat (x / 65536), UInt8.ofNat (x / 256 % 256), UInt8.ofNat (x % 256)] := by
  have e : ∀ v : Nat, UInt8.ofNat (v % 256) = UInt8.ofNat v := fun v => by
    apply UInt8.toNat.inj
    rw [UInt8.toNat_ofNat', UInt8.toNat_ofNat']
    simp
  rw [e, e]
  rfl

set_option maxRecDepth 1000000 in
set_option maxHeartbeats 3200000 in
theorem rf_key (va : Value) (a : List Int) (w : World) (ha : IL w va a) (hn : a.length ≤ 1000000) :
    Calls Try.prog 13 #[va] w fun e w' => e = .returned (.tuple #[.string (bs (if okG a then keyL a else [])), .bool (okG a)]) ∧ More w w' := by
  have mixed : Try.prog.follows Departure.mixedOrders = true := by kernel_rfl
  obtain ⟨ao, ca, rfl⟩ := ha.shape
  obtain ⟨n, hnn⟩ : ∃ n, a.length = n := ⟨_, rfl⟩
  have HA := Hid.mk (fun j (hj : j < n) => ha.cell (j := j) (by omega))
  have HN := Hid.mk (fun i (hi : i < n) (h : ¬ (0 ≤ a.getD i 0 ∧ a.getD i 0 < 16777216)) => okG_not (g := a) (i := i) (by omega) h)
  have HY := Hid.mk (fun (h : ∀ i, i < n → 0 ≤ a.getD i 0 ∧ a.getD i 0 < 16777216) => okG_all (g := a) (by rw [hnn]; exact h))
  have HK := Hid.mk (fun j (hj : j < n) => keyL_take (g := a) (r := j) (by omega))
  have HT := Hid.mk (show a.take n = a by rw [← hnn, List.take_length])
  have HKL := Hid.mk (fun j (hj : j ≤ n) => (show (keyL (a.take j)).length = 3 * j by rw [keyL_len, List.length_take]; omega))
  rw [hnn] at hn ⊢
  obtain ⟨OK, hOK⟩ : ∃ OK, okG a = OK := ⟨_, rfl⟩
  rw [hOK] at HY HN ⊢
  obtain ⟨S, hS⟩ : ∃ S, bs (if OK = true then keyL a else []) = S := ⟨_, rfl⟩
  rw [hS]
  have HS := Hid.mk hS
  clear ha hnn hS hOK
  go_enter Try.func13, Try.ntmps13
  go_wp2
  go_loopw [4, 5] (fun x k wr => ∃ r : Nat, r ≤ n ∧ k = .int .i64 r ∧ x = .string (bs (keyL (a.take r))) ∧ (∀ j, j < r → 0 ≤ a.getD j 0 ∧ a.getD j 0 < 16777216) ∧ More w wr) (fun _ k _ => n - (intOf k).toNat)
  case atStart => exact ⟨0, by omega, rfl, rfl, (fun j h => by omega), More.refl w⟩
  case round =>
    obtain ⟨r, hr, rfl, rfl, hall, hM⟩ := hrel
    have HL := Hid.mk hall
    clear hall
    by_cases hlt : r < n
    · obtain ⟨g1, o1, rfl, hb, c1⟩ := HA.out r hlt
      have c1 := (hM.cell (p := ⟨g1, o1 + r, none⟩) hb).trans c1
      by_cases hg : 0 ≤ a.getD r 0 ∧ a.getD r 0 < 16777216
      · obtain ⟨x, hx⟩ : ∃ x : Nat, a.getD r 0 = (x : Int) := ⟨(a.getD r 0).toNat, by omega⟩
        have HX := Hid.mk (HK.out r hlt)
        have HGG := Hid.mk hg
        rw [hx] at c1 HX hg
        have hxl : x < 16777216 := by omega
        rw [kb_three x] at HX
        have hkl := HKL.out r hr
        obtain ⟨G, hG⟩ : ∃ G, keyL (a.take r) = G := ⟨_, rfl⟩
        rw [hG] at hkl HX ⊢
        obtain ⟨V0, h0⟩ : ∃ V, x / 65536 = V := ⟨_, rfl⟩
        obtain ⟨V1, h1⟩ : ∃ V, x / 256 % 256 = V := ⟨_, rfl⟩
        obtain ⟨V2, h2⟩ : ∃ V, x % 256 = V := ⟨_, rfl⟩
        rw [h0, h1, h2] at HX
        have i0 : (x : Int) / 65536 = V0 := by omega
        have i1 : (x : Int) / 256 % 256 = V1 := by omega
        have i2 : (x : Int) % 256 = V2 := by omega
        have b0 : V0 < 256 := by omega
        have b1 : V1 < 256 := by omega
        have b2 : V2 < 256 := by omega
        have hc := conv_three V0 V1 V2 b0 b1 b2
        have hadd : ∀ w, (Op.stringOp .add (bs G) (bs [UInt8.ofNat V0, UInt8.ofNat V1, UInt8.ofNat V2])).run Try.prog w = .ok (.string (bs (keyL (a.take (r + 1))))) w := fun w => by
          rw [run_string_add_sum w _ _ (by rw [bs_size, bs_size]; simp; omega), bs_append, HX.out]
        have HM := Hid.mk hM
        generalize [UInt8.ofNat V0, UInt8.ofNat V1, UInt8.ofNat V2] = T3 at *
        clear hM hx hG h0 h1 h2 hkl hb HX
        obtain ⟨G', hG'⟩ : ∃ G', keyL (a.take (r + 1)) = G' := ⟨_, rfl⟩
        rw [hG'] at hadd
        have HG' := Hid.mk hG'
        clear hG'
        go_wp2_with fail
        go_region_o
        all_goals (try go_wp2)
        all_goals exact ⟨⟨r + 1, by omega, by go_num, by rw [HG'.out], (fun j hj => by
          by_cases hjr : j = r
          · subst hjr; exact HGG.out
          · exact HL.out j (by omega)), More.trans (More.trans HM.out (more_alloc _ _)) (more_drew1 _)⟩, by simp [intOf]; omega⟩
      · have hno := HN.out r hlt hg
        have HM := Hid.mk (And.intro hno hM)
        obtain ⟨x, hx⟩ : ∃ x, a.getD r 0 = x := ⟨_, rfl⟩
        rw [hx] at c1 hg
        obtain ⟨G, hG⟩ : ∃ G, keyL (a.take r) = G := ⟨_, rfl⟩
        rw [hG]
        clear hM hb hx hno hG
        by_cases hneg : x < 0
        · go_wp2
          go_ret2
          exact ⟨by rw [← HS.out, HM.out.1]; rfl, HM.out.2⟩
        · have hbig : 16777215 < x := by omega
          go_wp2
          go_ret2
          exact ⟨by rw [← HS.out, HM.out.1]; rfl, HM.out.2⟩
    · obtain rfl : r = n := by omega
      have hyes := HY.out HL.out
      have HM := Hid.mk (And.intro hyes hM)
      rw [HT.out]
      obtain ⟨G, hG⟩ : ∃ G, keyL a = G := ⟨_, rfl⟩
      have HG := Hid.mk hG
      rw [hG]
      clear hM hyes hG
      go_wp2
      go_ret2
      exact ⟨by rw [← HS.out, HM.out.1, if_pos rfl, HG.out]; rfl, HM.out.2⟩
end Go.Proofs.Yteiegedffjkbeaa
