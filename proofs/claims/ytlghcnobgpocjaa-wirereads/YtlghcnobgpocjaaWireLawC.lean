/-
  Law 10's long; WireWrites, walked.
-/
import Derived.Test.YtlghcnobgpocjaaWireLawA
namespace Go.Proofs.Ytlghcnobgpocjaa
open Go.RowKit

/-- The part that lies at a place. -/
def PartIn (w : World) (g p : Nat) (kd : Int) (x : Nat) (N : Int) (s : List UInt8) : Prop :=
  w.cell? ⟨g, p, none⟩ = some (.int .i64 kd) ∧ w.cell? ⟨g, p + 1, none⟩ = some (.int .u64 x) ∧ w.cell? ⟨g, p + 2, none⟩ = some (.int .i64 N) ∧ w.cell? ⟨g, p + 3, none⟩ = some (.string (bs s))
/-- A slice of K parts is read. -/
def PRd (w : World) (v : Value) (K : Nat) (pK : Nat → Int) (pV : Nat → Nat) (pN : Nat → Int) (pS : Nat → List UInt8) : Prop :=
  (K = 0 ∧ ∃ ao cap, v = .slice ao 0 cap) ∨ ∃ g o cap, v = .slice (some ⟨g, o, none⟩) K cap ∧ g < w.heap.size ∧ ∀ j, j < K → PartIn w g (o + j * 4) (pK j) (pV j) (pN j) (pS j)
section
variable {w : World} {v : Value} {K cap : Nat} {ao : Option Addr} {pK : Nat → Int} {pV : Nat → Nat} {pN : Nat → Int} {pS : Nat → List UInt8}
theorem PRd.shape (h : PRd w v K pK pV pN pS) : ∃ ao cap, v = .slice ao K cap := by
  rcases h with ⟨rfl, ao, cap, rfl⟩ | ⟨g, o, cap, rfl, _⟩
  · exact ⟨_, _, rfl⟩
  · exact ⟨_, _, rfl⟩
theorem PRd.at (h : PRd w (.slice ao K cap) K pK pV pN pS) {k : Nat} (hk : k < K) :
    ∃ g o, ao = some ⟨g, o, none⟩ ∧ ∀ w', More w w' → PartIn w' g (o + k * 4) (pK k) (pV k) (pN k) (pS k) := by
  rcases h with ⟨rfl, _⟩ | ⟨g, o, cap', h, hg, hc⟩
  · omega
  · simp at h
    obtain ⟨h0, h1, h2, h3⟩ := hc k hk
    exact ⟨g, o, h.1, fun w' hb => ⟨(hb.cell (p := ⟨g, o + k * 4, none⟩) hg).trans h0, (hb.cell (p := ⟨g, o + k * 4 + 1, none⟩) hg).trans h1, (hb.cell (p := ⟨g, o + k * 4 + 2, none⟩) hg).trans h2, (hb.cell (p := ⟨g, o + k * 4 + 3, none⟩) hg).trans h3⟩⟩
end

/-- The bytes of the first k parts. -/
def acc (pK : Nat → Int) (pV : Nat → Nat) (pN : Nat → Int) (pS : Nat → List UInt8) : Nat → List UInt8
  | 0 => []
  | k + 1 => acc pK pV pN pS k ++ prt (pK k) (pV k) (pN k) (pS k)
/-- The numbers of parts are such as Go has. -/
structure Fine (pV : Nat → Nat) (pN : Nat → Int) : Prop where
  v : ∀ k, pV k < 18446744073709551616
  n : ∀ k, -9223372036854775808 ≤ pN k ∧ pN k ≤ 9223372036854775807
theorem acc_len {pK : Nat → Int} {pV : Nat → Nat} {pN : Nat → Int} {pS : Nat → List UInt8} (hf : Fine pV pN) {K : Nat} (hS : ∀ k, k < K → (pS k).length ≤ 300) : ∀ k, k ≤ K → (acc pK pV pN pS k).length ≤ 310 * k
  | 0, _ => by simp [acc]
  | k + 1, h => by
    have h1 := acc_len (pK := pK) hf hS k (by omega)
    have h2 := prt_len (kd := pK k) (hf.v k) (hf.n k) (hS k (by omega))
    rw [acc, List.length_append]
    omega

/-- There is not too much. -/
def Few (K : Nat) (pS : Nat → List UInt8) : Prop := K ≤ 40 ∧ ∀ k, k < K → (pS k).length ≤ 300

set_option maxHeartbeats 800000 in
set_option maxRecDepth 1000000 in
theorem law_long (r : Bool) (v : Value) (K : Nat) (pK : Nat → Int) (pV : Nat → Nat) (pN : Nat → Int) (pS : Nat → List UInt8) (w : World) (h : PRd w v K pK pV pN pS) (hK : K ≤ 9223372036854775807) (hr : r = true ↔ ¬ Few K pS) :
    Calls Try.prog 7 #[v] w fun e w' => e = .returned (.bool r) ∧ w' = w := by
  obtain ⟨ao, cap, rfl⟩ := h.shape
  have HH := Hid.mk h
  have HF := Hid.mk hr
  clear h hr
  go_enter Try.func7, Try.ntmps7
  go_wp2
  go_loop [3] (fun i => ∃ k : Nat, k ≤ K ∧ k ≤ 40 ∧ i = .int .i64 k ∧ Hid (∀ j, j < k → (pS j).length ≤ 300)) (fun i => 40 - (intOf i).toNat)
  case atStart => exact ⟨0, by omega, by omega, rfl, Hid.mk fun j hj => by omega⟩
  case round =>
    obtain ⟨k, hk, hk40, rfl, HK⟩ := hrel
    by_cases hkK : k < K
    · by_cases h40 : k < 40
      · obtain ⟨g, o, rfl, hp⟩ := HH.out.at hkK
        obtain ⟨_, _, _, c3⟩ := hp w (Below.refl _ _)
        have hsz : (bs (pS k)).size = (pS k).length := bs_size _
        obtain ⟨n, hn⟩ : ∃ n, (pS k).length = n := ⟨_, rfl⟩
        rw [hn] at hsz
        have HN := Hid.mk hn
        generalize bs (pS k) = q at *
        clear hp hn HH
        by_cases h300 : 300 < n
        · obtain rfl : r = true := HF.out.2 (fun hf => by have := hf.2 k hkK; rw [HN.out] at this; omega)
          go_wp2
          go_ret
          exact ⟨rfl, rfl⟩
        · go_wp2
          refine ⟨⟨k + 1, by omega, by omega, by go_num, Hid.mk fun j hj => ?_⟩, by simp [intOf]; omega⟩
          by_cases hjk : j = k
          · subst hjk; rw [HN.out]; omega
          · exact HK.out j (by omega)
      · have hbig : (40 : Int) < K := by omega
        obtain rfl : r = true := HF.out.2 (fun hf => by have := hf.1; omega)
        clear HH
        go_wp2
        go_ret
        exact ⟨rfl, rfl⟩
    · obtain rfl : k = K := by omega
      have hbig : ¬ (40 : Int) < k := by omega
      obtain rfl : r = false := by
        cases r
        · rfl
        · exact absurd ⟨hk40, HK.out⟩ (HF.out.1 rfl)
      clear HH
      go_wp2
      go_ret
      exact ⟨rfl, rfl⟩

set_option maxHeartbeats 1600000 in
set_option maxRecDepth 1000000 in
theorem wireWrites (v : Value) (K : Nat) (pK : Nat → Int) (pV : Nat → Nat) (pN : Nat → Int) (pS : Nat → List UInt8) (w : World) (h : PRd w v K pK pV pN pS) (hf : Fine pV pN) (hK : K ≤ 9223372036854775807) :
    Calls Try.prog 3 #[v] w fun e w' => e = .returned (.bool true) ∧ Below w.heap.size w w' := by
  have hlv := fun w => live_true w
  by_cases hfew : Few K pS
  · have hl := law_long false v K pK pV pN pS w h hK (by simp [hfew])
    obtain ⟨ao, cap, rfl⟩ := h.shape
    have HH := Hid.mk (And.intro h (And.intro hf (And.intro hfew.2 (acc_len (pK := pK) hf hfew.2))))
    have HW := Hid.mk (And.intro (WrAt.new w) (More.alloc w (.cells #[.slice none 0 0] 28)))
    have hK40 := hfew.1
    clear h hf hfew
    go_enter Try.func3, Try.ntmps3
    go_wp2_with (go_at_call 7; refine hl.mono ?_; rintro e w' ⟨rfl, hw'⟩; subst w')
    go_loopw [5, 6] (fun x i wr => ∃ k : Nat, k ≤ K ∧ i = .int .i64 k ∧ x = .string (bs (acc pK pV pN pS k)) ∧ Hid (WrAt wr w.heap.size w.heap.size (acc pK pV pN pS k) ∧ More w wr)) (fun _ i _ => K - (intOf i).toNat)
    case atStart => exact ⟨0, by omega, rfl, rfl, Hid.mk ⟨HW.out.1, HW.out.2⟩⟩
    case round =>
      obtain ⟨k, hk, rfl, rfl, HR⟩ := hrel
      by_cases hkK : k < K
      · obtain ⟨g, o, rfl, hp⟩ := HH.out.1.at hkK
        have hlen := HH.out.2.2.2 k hk
        have hv := HH.out.2.1.v k
        have hN := HH.out.2.1.n k
        have hs := HH.out.2.2.1 k hkK
        have hpl := prt_len (kd := pK k) hv hN hs
        have hadd : ∀ w, (Op.stringOp .add (bs (acc pK pV pN pS k)) (bs (prt (pK k) (pV k) (pN k) (pS k)))).run Try.prog w = .ok (.string (bs (acc pK pV pN pS (k + 1)))) w := fun w => by
          rw [run_string_add_sum w _ _ (by rw [bs_size, bs_size]; omega), bs_append]
          rfl
        have hwr := law_write w.heap.size w.heap.size (acc pK pV pN pS k) (pK k) (pV k) (pN k) (pS k) wr HR.out.1 (by omega) hv hN hs
        rw [show acc pK pV pN pS k ++ prt (pK k) (pV k) (pN k) (pS k) = acc pK pV pN pS (k + 1) from rfl] at hwr
        have hni := fun w => nil_write (pK k) (pV k) (pN k) (pS k) w hv hN hs
        have HC := Hid.mk hp
        obtain ⟨c0, c1, c2, c3⟩ := hp wr HR.out.2
        clear hlen hpl hp hv hN hs
        obtain ⟨nxt, hnx⟩ : ∃ nxt, acc pK pV pN pS (k + 1) = nxt := ⟨_, rfl⟩
        rw [hnx] at hadd hwr
        have HX := Hid.mk hnx
        clear hnx
        generalize acc pK pV pN pS k = cur at *
        generalize prt (pK k) (pV k) (pN k) (pS k) = pc at *
        generalize pK k = kd at *
        generalize pV k = x at *
        generalize pN k = N at *
        generalize pS k = s at *
        clear HH hl hlv
        go_wp2_with (first
          | (go_at_call_of 9 (Value.pointer none); refine (hni _).mono ?_; rintro e w2 ⟨⟨y, rfl⟩, hm⟩; have H2 := Hid.mk (And.intro (H1.out.1.more hm) (More.trans H1.out.2 hm)); clear hm)
          | (go_at_call 9; refine hwr.mono ?_; rintro e w1 ⟨rfl, ha, hb⟩; have H1 := Hid.mk (And.intro ha (Below.trans HR.out.2 hb)); obtain ⟨d0, d1, d2, d3⟩ := HC.out w1 H1.out.2; clear ha hb hwr))
        exact ⟨⟨k + 1, by omega, by go_num, by rw [HX.out], by rw [HX.out]; exact H2⟩, by simp [intOf]; omega⟩
      · obtain rfl : k = K := by omega
        have hnil : (bs []).toList = [] := by rw [ByteArray.toList_eq]; rfl
        have hby := fun w' h => wr_bytes w.heap.size w.heap.size (acc pK pV pN pS k) w' h
        generalize acc pK pV pN pS k = cur at *
        clear HH hl
        go_wp2_with (first
          | (go_at_call_of 10 (Value.pointer none); refine (nil_bytes _).mono ?_; rintro e w' ⟨rfl, hw'⟩; subst w')
          | (go_at_call 10; refine (hby wr HR.out.1).mono ?_; rintro e w' ⟨rfl, hw'⟩; subst w')
          | (go_at_call 8; refine (hlv _).mono ?_; rintro e w1 ⟨rfl, hm⟩; have H1 := Hid.mk (More.trans HR.out.2 hm); clear hm))
        go_ret
        exact ⟨rfl, H1.out⟩
  · have hl := law_long true v K pK pV pN pS w h hK (by simp [hfew])
    obtain ⟨ao, cap, rfl⟩ := h.shape
    clear h hf
    go_enter Try.func3, Try.ntmps3
    go_wp2_with (first
      | (go_at_call 7; refine hl.mono ?_; rintro e w' ⟨rfl, hw'⟩; subst w')
      | (go_at_call 8; refine (hlv _).mono ?_; rintro e w1 ⟨rfl, hm⟩))
    go_ret
    exact ⟨rfl, hm⟩

end Go.Proofs.Ytlghcnobgpocjaa
