/-
  seqbin's GetRow: a row of so many bits is read.
-/
import Derived.Test.YtbjgbigalfhnjaaGreatDoorSbRow
import Derived.Test.YtbjgbigalfhnjaaGreatDoorWireTake
import Derived.Test.YtbjgbigalfhnjaaGreatDoorSet04
namespace Go.Proofs.YtbjgbigalfhnjaaGreatDoor
open Go.RowKit

theorem ofB_append : ∀ (l : List UInt8) (b : UInt8), ofB (l ++ [b]) = cat (ofB l) (8 * l.length) b.toNat
  | [], b => by simp [ofB, cat]
  | a :: l, b => by
    rw [List.cons_append, ofB, ofB_append l b, ofB]
    unfold cat
    rw [List.length_cons, Nat.mul_succ, Nat.pow_add, show (2 : Nat) ^ 8 = 256 by decide, Nat.mul_add, Nat.mul_comm (2 ^ (8 * l.length)) 256, Nat.mul_assoc]
    omega
theorem ofB_take (l : List UInt8) (k : Nat) (h : k < l.length) : ofB (l.take (k + 1)) = cat (ofB (l.take k)) (8 * k) (bt l k) := by
  rw [List.take_add_one, List.getElem?_eq_getElem h]
  have := ofB_append (l.take k) l[k]
  rw [List.length_take, Nat.min_eq_left (by omega)] at this
  simp only [Option.toList_some]
  rw [this]
  unfold bt
  rw [List.getElem?_eq_getElem h]
  rfl
theorem ofB_lt2 (l : List UInt8) : ofB l < 2 ^ (8 * l.length) := by rw [Nat.pow_mul]; exact ofB_lt l
/-- A byte more, word by word. -/
theorem wd_byte (V k x : Nat) (hV : V < 2 ^ (8 * k)) (hx : x < 256) (i : Nat) : wd (cat V (8 * k) x) i = if i = k / 8 then wd V (k / 8) ||| (x * 2 ^ (8 * k % 64) % 18446744073709551616) else wd V i := by
  have hd : 8 * k / 64 = k / 8 := by omega
  by_cases h : i = k / 8
  · subst h
    rw [if_pos rfl, ← hd, wd_cat_mid x hV]
  · rw [if_neg h]
    by_cases h2 : i < k / 8
    · exact wd_cat_low x hV i (by omega)
    · have hc : cat V (8 * k) x < 2 ^ (8 * k + 8) := cat_lt hV hx
      rw [wd_zero hc i (by unfold nw; omega), wd_zero hV i (by unfold nw; omega)]
theorem byte_set (V k x K : Nat) (hV : V < 2 ^ (8 * k)) (hx : x < 256) : (u64s (wd V) K).set (k / 8) (.int .u64 (wd V (k / 8) ||| (x * 2 ^ (8 * k % 64) % 18446744073709551616) : Nat)) = u64s (wd (cat V (8 * k) x)) K := by
  apply List.ext_getElem?
  intro i
  by_cases hi : i < K
  · rw [u64s_get _ _ _ hi, List.getElem?_set, wd_byte V k x hV hx i]
    by_cases h : k / 8 = i
    · subst h; simp [u64s_len, hi]
    · rw [if_neg h, u64s_get _ _ _ hi, if_neg (by omega)]
  · rw [List.getElem?_eq_none (by simp [u64s_len]; omega), List.getElem?_eq_none (by simp [u64s_len]; omega)]
theorem wd_none (K : Nat) : (madeCells (Value.int IntKind.u64 0).cells (K * 1)).toList = u64s (wd 0) K := by
  apply List.ext_getElem?
  intro i
  by_cases hi : i < K
  · rw [u64s_get _ _ _ hi]
    simp [madeCells, wd, hi, Value.cells, Nat.mod_one]
  · rw [List.getElem?_eq_none (by simp [madeCells]; omega), List.getElem?_eq_none (by simp [u64s_len]; omega)]
theorem ofW_all (V K : Nat) (hV : V < 2 ^ (64 * K)) : ofW (wd V) K = V := by
  have h := ofW_lt (wd V) K (fun j _ => wd_lt V j)
  refine eq_of_words h hV fun j hj => ?_
  have : nw (64 * K) = K := by unfold nw; omega
  exact ofW_wd (wd V) K (fun j _ => wd_lt V j) j (by omega)

/-- What GetRow tells of n bits, and what becomes of the reader. -/
structure GotRow (w : World) (base b : Nat) (l : List UInt8) (a n : Nat) (v : List UInt8) (t er : Nat) (e : Ending) (w' : World) : Prop where
  keeps : KeepsT RT base w w'
  what : (er ≠ 0 ∧ e = .returned (.pointer none) ∧ RdAt w' base b l (a + t) er) ∨
    (er = 0 ∧ ofB v < 2 ^ n ∧ RdAt w' base b l (a + t) 0 ∧ ∃ r, e = .returned (.pointer (some ⟨r, 0, none⟩)) ∧ RowAt w' w.heap.size r (ofB v) n) ∨
    (er = 0 ∧ ¬ ofB v < 2 ^ n ∧ e = .returned (.pointer none) ∧ RdAt w' base b l (a + t) 3)

set_option maxHeartbeats 800000 in
set_option maxRecDepth 1000000 in
theorem sb_getRow (base b a E n t er : Nat) (z : Int) (v l : List UInt8) (w : World) (h : RdAt w base b l a E) (hz : max z 0 = (n : Int)) (hn : n ≤ 9223372036854775807) (hq : st E [] (rdR (l.drop a) (nby n : Nat)) = (v, t, er)) :
    Calls Tryz.prog 57 #[.pointer (some ⟨b, 0, none⟩), .int .i64 z] w fun e w' => GotRow w base b l a n v t er e w' := by
  obtain ⟨i0, hi, hz0, hz1, hz2⟩ := info_parts Tryz.info36
  have hnb : nby n ≤ 1152921504606846976 := by rw [nby_is]; omega
  have hraw := rdr_raw base b a t er E v (nby n : Nat) l w h (by omega) hq
  have hce := fun w => cells8 n hn w
  have hcw := fun w => cells64 n hn w
  -- what is read has as many bytes as n bits have
  have hv : er = 0 → v.length = nby n ∧ nby n ≤ 100000000 := fun h0 => by
    subst h0
    have hE0 : E = 0 := by
      by_cases hE : E = 0
      · exact hE
      · rw [st_no hE] at hq; simp at hq; exact absurd hq.2.2 hE
    subst hE0
    rw [st_ok] at hq
    unfold rdR at hq
    rw [if_neg (by omega)] at hq
    unfold cutR at hq
    split at hq
    · simp at hq
    · simp at hq
      have := h.len
      rename_i hlt
      rw [List.length_drop, Nat.sub_zero] at hlt
      rw [← hq.1, List.length_take, List.length_drop]
      omega
  obtain ⟨K, hK⟩ : ∃ K, nby n = K := ⟨_, rfl⟩
  rw [hK] at hraw hce hv hnb
  have HH := Hid.mk (And.intro h (And.intro hv hK))
  have hsize : base ≤ w.heap.size := h.sz
  clear h hv hK hq
  by_cases h0 : er = 0
  · subst h0
    obtain ⟨hvl, hKb⟩ := HH.out.2.1 rfl
    have hnK : n ≤ 800000000 := by have h1 := HH.out.2.2; have := nby_le n; omega
    have hsv : (bs v).size = K := by rw [bs_size]; exact hvl
    obtain ⟨M, hM⟩ : ∃ M, nw n = M := ⟨_, rfl⟩
    have hMb : M ≤ 12500001 := by rw [← hM]; unfold nw; omega
    have hMK : K ≤ 8 * M := by rw [← HH.out.2.2, ← hM, nby_is]; unfold nw; omega
    rw [hM] at hcw
    have HM := Hid.mk hM
    clear hM
    go_enter Tryz.func57, Tryz.ntmps57
    go_wp2_with (first
      | (go_at_call 40; refine (hce _).mono ?_; rintro e w' ⟨rfl, hw⟩; subst w'; clear hce)
      | (go_at_call 83; refine hraw.mono ?_; rintro e w1 ⟨rfl, hr1, hk1⟩; have H1 := Hid.mk (And.intro hr1 hk1); have herr := rd_err base b (a + t) 0 l w1 hr1; clear hr1 hk1 hraw)
      | (go_at_call 16; refine herr.mono ?_; rintro e w' ⟨rfl, hw⟩; subst w'; clear herr)
      | (go_at_call 40; refine (hcw _).mono ?_; rintro e w' ⟨rfl, hw⟩; subst w'; clear hcw)
      | (refine wpList_make_full _ rfl _ _ 82 rfl w1.heap.size 68 i0 (.int .u64 0) 1 Tryz.underlying82 hi hz0 hz1 .i64 .i64 M M M rfl rfl rfl rfl (by rw [hz2]; omega) (by unfold maxLen; omega) (Nat.le_refl _) ?_; intro w2 hown hg; have H2 := Hid.mk (And.intro hown hg); clear hown hg))
    have hs2 : w1.heap.size < w2.heap.size := by
      rcases H2.out.1.2 with ⟨h, _⟩ | ⟨g, c, cur, h, _, hg, _⟩
      · cases h
      · simp at h; obtain ⟨rfl, _⟩ := h; exact lt_of_block hg
    have hm2 : More w1 w2 := ⟨H2.out.2.os, H2.out.2.tape, H2.out.2.output, H2.out.2.size, fun k hk => H2.out.2.block k hk (by simp)⟩
    have hw0 := H2.out.1
    rw [wd_none M] at hw0
    go_loopw [25] (fun i wr => ∃ k : Nat, k ≤ K ∧ i = .int .i64 k ∧ Hid (wr.ownsRow w1.heap.size 68 1 (.slice (some ⟨w1.heap.size, 0, none⟩) M M) M (u64s (wd (ofB (v.take k))) M) ∧ More w1 wr ∧ w1.heap.size < wr.heap.size)) (fun i _ => K - (intOf i).toNat)
    case atStart => exact ⟨0, Nat.zero_le _, rfl, Hid.mk ⟨hw0, hm2, hs2⟩⟩
    case round =>
      obtain ⟨k, hk, rfl, HR⟩ := hrel
      by_cases hkK : k < K
      · have htk := ofB_take v k (by omega)
        have hVk : ofB (v.take k) < 2 ^ (8 * k) := by
          have := ofB_lt2 (v.take k)
          rw [List.length_take, Nat.min_eq_left (by omega)] at this
          exact this
        obtain ⟨q, hqe⟩ : ∃ q, k / 8 = q := ⟨_, rfl⟩
        obtain ⟨r, hre⟩ : ∃ r, 8 * k % 64 = r := ⟨_, rfl⟩
        have hqM : q < M := by omega
        have hr64 : r < 64 := by omega
        have e1 : (k : Int) * 8 / 64 = q := by omega
        have e2 : (k : Int) * 8 % 64 = r := by omega
        have hlt : k < (bs v).size := by omega
        obtain ⟨X, hX⟩ : ∃ X, bt v k = X := ⟨_, rfl⟩
        have hbt : ((bs v)[k]'hlt).toNat = X := by rw [bt_bs, hX]
        have hXb : X < 256 := by rw [← hX]; exact bt_lt _ _
        rw [hX] at htk
        have hset := byte_set (ofB (v.take k)) k X M hVk hXb
        rw [hqe, hre, ← htk] at hset
        have hwl := wd_lt (ofB (v.take k)) q
        have hown := HR.out.1
        have hfz : ∀ m, (wr.drewN m).frozen? ⟨w1.heap.size, q, none⟩ = false := fun m => hown.frozenAt q
        have hcl : ∀ m, (wr.drewN m).cell? ⟨w1.heap.size, q, none⟩ = some (.int .u64 (wd (ofB (v.take k)) q : Nat)) := fun m => by
          have := hown.cellAt q (by omega)
          rw [u64s_get _ _ _ hqM] at this
          exact this
        have hcl0 : wr.cell? ⟨w1.heap.size, q, none⟩ = some (.int .u64 (wd (ofB (v.take k)) q : Nat)) := hcl 0
        have hfz0 : wr.frozen? ⟨w1.heap.size, q, none⟩ = false := hfz 0
        have e5 : IntKind.u64.wrap ((X : Int) * 2 ^ r) = ((X * 2 ^ r % 18446744073709551616 : Nat) : Int) := by
          rw [IntKind.wrap_u64, Int.natCast_emod, Int.natCast_mul, Int.natCast_pow]; rfl
        obtain ⟨A, hA⟩ : ∃ A, wd (ofB (v.take k)) q = A := ⟨_, rfl⟩
        obtain ⟨Y, hY⟩ : ∃ Y, X * 2 ^ r % 18446744073709551616 = Y := ⟨_, rfl⟩
        have hYl : Y < 18446744073709551616 := by rw [← hY]; exact Nat.mod_lt _ (by decide)
        rw [hA] at hwl hcl hset hcl0
        rw [hY] at e5 hset
        have hor : bits .or .u64 (A : Int) (Y : Int) = ((A ||| Y : Nat) : Int) := u64_or_nat _ _ hwl hYl
        have HS := Hid.mk (And.intro hset hown)
        clear hset hown htk hVk hX hA hY
        go_wp2
        go_region
        all_goals go_wp2_with fail
        refine ⟨⟨k + 1, by omega, by go_num, Hid.mk ?_⟩, by simp [intOf]; omega⟩
        have hs := ((show (wr.drew).ownsRow w1.heap.size 68 1 (.slice (some ⟨w1.heap.size, 0, none⟩) M M) M (u64s (wd (ofB (v.take k))) M) from HS.out.2).stored q (.int .u64 (A ||| Y : Nat))).1
        rw [HS.out.1] at hs
        exact ⟨hs, (More.trans HR.out.2.1 (More.drewN wr 1)).setCell (p := ⟨w1.heap.size, q, none⟩) (Nat.le_refl _) _, Nat.lt_of_lt_of_le HR.out.2.2 ((Below.refl 0 (wr.drewN 1)).setCell (p := ⟨w1.heap.size, q, none⟩) (Nat.zero_le _) _).size⟩
      · obtain rfl : k = K := by omega
        have hown := HR.out.1
        rw [List.take_of_length_le (by omega)] at hown
        have hV64 : ofB v < 2 ^ (64 * M) := Nat.lt_of_lt_of_le (ofB_lt2 v) (Nat.pow_le_pow_right (by decide) (by omega))
        have hall := ofW_all (ofB v) M hV64
        have hrdr := H1.out.1.more HR.out.2.1
        have hkr : KeepsT RT base w wr := H1.out.2.trans (KeepsT.more HR.out.2.1 H1.out.1.sz)
        by_cases hfit : ofB v < 2 ^ n
        · have hof := of_row _ M n (wd (ofB v)) wr (rd_of_own hown) (fun j _ => wd_lt _ _) (by omega) HM.out.symm (by rw [hall]; exact hfit)
          rw [hall] at hof
          have HZ := Hid.mk (And.intro hfit (And.intro hrdr (And.intro hkr (Nat.le_trans H1.out.2.below.size HR.out.2.1.size))))
          clear hkK hk hown hV64 hall hfit hrdr hkr
          go_wp2_with (go_at_call 47; refine hof.mono ?_; rintro e w3 ⟨rb, rfl, hrow, hk3⟩; have H3 := Hid.mk (And.intro hrow hk3); clear hrow hk3)
          go_ret
          exact ⟨HZ.out.2.2.1.trans (KeepsT.more H3.out.2.below HZ.out.2.1.sz), .inr (.inl ⟨rfl, HZ.out.1, HZ.out.2.1.more H3.out.2.below, _, rfl, H3.out.1.lower HZ.out.2.2.2⟩)⟩
        · have hof := of_form _ M n (wd (ofB v)) wr (rd_of_own hown) (fun j _ => wd_lt _ _) (by omega) HM.out.symm (by rw [hall]; exact hfit)
          have HZ := Hid.mk (And.intro hfit (And.intro hrdr hkr))
          clear hkK hk hown hV64 hall hfit hrdr hkr
          go_wp2_with (first
            | (go_at_call 47; refine hof.mono ?_; rintro e w3 ⟨rfl, m3, hw3⟩; subst w3)
            | (go_at_call 27; refine (rd_fail base b (a + t) 0 3 l _ (HZ.out.2.1.more (More.drewN wr m3))).mono ?_; rintro e w4 ⟨rfl, hr4, hk4⟩; have H4 := Hid.mk (And.intro hr4 hk4); clear hr4 hk4))
          go_ret
          exact ⟨HZ.out.2.2.trans ((KeepsT.more (More.drewN wr m3) (HZ.out.2.1.sz)).trans H4.out.2), .inr (.inr ⟨rfl, HZ.out.1, rfl, H4.out.1⟩)⟩
  · have h0' : ¬ (er : Int) = 0 := by omega
    go_enter Tryz.func57, Tryz.ntmps57
    go_wp2_with (first
      | (go_at_call 40; refine (hce _).mono ?_; rintro e w' ⟨rfl, hw⟩; subst w'; clear hce)
      | (go_at_call 83; refine hraw.mono ?_; rintro e w1 ⟨rfl, hr1, hk1⟩; have H1 := Hid.mk (And.intro hr1 hk1); have herr := rd_err base b (a + t) er l w1 hr1; clear hr1 hk1 hraw)
      | (go_at_call 16; refine herr.mono ?_; rintro e w' ⟨rfl, hw⟩; subst w'; clear herr))
    go_ret
    exact ⟨H1.out.2, .inl ⟨h0, rfl, H1.out.1⟩⟩

end Go.Proofs.YtbjgbigalfhnjaaGreatDoor
