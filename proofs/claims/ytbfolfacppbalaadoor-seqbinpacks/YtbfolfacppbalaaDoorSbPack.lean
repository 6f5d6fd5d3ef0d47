/-
  seqbin's PutPack and GetPack; the document's bytes of packs, and what bytes are as a pack.
-/
import Derived.Test.YtbfolfacppbalaaDoorSbGets
import Derived.Test.YtbfolfacppbalaaDoorSbRefD
import Derived.Test.YtbfolfacppbalaaDoorPackOf
namespace Go.Proofs.YtbfolfacppbalaaDoor
open Go.RowKit

set_option maxHeartbeats 1600000 in
set_option maxRecDepth 1000000 in
theorem sb_putPack (base wb base' p V d n : Nat) (l : List UInt8) (w : World) (h : WrAt w base wb l) (hp : PackAt w base' p V d n) (hn : n ≤ 10000) (hl : l.length ≤ 100000) :
    Calls Tryd.prog 22 #[.pointer (some ⟨wb, 0, none⟩), .pointer (some ⟨p, 0, none⟩)] w fun e w' => e = .returned (.tuple #[]) ∧ WrAt w' base wb (l ++ (num d ++ (num n ++ rby V (d * n)))) ∧ KeepsT WT base w w' := by
  have hd := hp.wid
  have hV := hp.fit
  have hwid := fun w (h : PackAt w base' p V d n) => pack_width p V d n w h.rd
  have hlen := fun w (h : PackAt w base' p V d n) => pack_len p V d n w h.rd
  have hkp : ∀ {w w' : World}, KeepsT WT base w w' → PackAt w base' p V d n → PackAt w' base' p V d n := fun k h => k.pack h (fun h => (wt_seq _ h).2.1 rfl) (fun h => (wt_seq _ h).2.2.1 rfl) (fun h => (wt_seq _ h).2.2.2.1 rfl)
  have hn1 := wr_num base wb d l w h (by omega) (by omega)
  have hwd : IntKind.u64.wrap (d : Int) = d := by rw [IntKind.wrap_u64]; omega
  have hwn : IntKind.u64.wrap (n : Int) = n := by rw [IntKind.wrap_u64]; omega
  obtain ⟨B, hB⟩ : ∃ B, d * n = B := ⟨_, rfl⟩
  have hBb : B ≤ 640000 := by rw [← hB]; exact Nat.mul_le_mul hd hn
  have hmul : (n : Int) * (d : Int) = (B : Int) := by rw [← hB, Int.natCast_mul, Int.mul_comm]
  have hwB : IntKind.i64.wrap (B : Int) = B := by rw [IntKind.wrap_i64]; omega
  have hall : ofW (wd V) (nw B) = V := ofW_all V (nw B) (Nat.lt_of_lt_of_le (by rw [hB] at hV; exact hV) (Nat.pow_le_pow_right (by decide) (by unfold nw; omega)))
  have hof := fun vv (w' : World) (hr : Rd w' vv (nw B) (wd V)) => of_row vv (nw B) B (wd V) w' hr (fun j _ => wd_lt V j) (by omega) rfl (by rw [hall]; rw [hB] at hV; exact hV)
  rw [hall] at hof
  have hwo := fun w (h : PackAt w base' p V d n) => pack_words base' p V d n w h
  rw [hB] at hwo
  have hm1 := num_ten (v := d) (by omega)
  have hm2 := num_ten (v := n) (by omega)
  rw [hB]
  have hwid0 := hwid w hp
  have HH := Hid.mk (And.intro h (And.intro hp (And.intro hm1 hm2)))
  clear h hp hV hB hall hm1 hm2
  go_enter Tryd.func22, Tryd.ntmps22
  go_wp2_with (first
    | (go_at_call 28; refine hwid0.mono ?_; rintro e w' ⟨rfl, hw⟩; subst w'; clear hwid0)
    | (go_at_call 59; refine hn1.mono ?_; rintro e w1 ⟨rfl, hr1, hk1⟩; have H1 := Hid.mk (And.intro hr1 (And.intro hk1 (hkp hk1 HH.out.2.1))); have hlen1 := hlen w1 H1.out.2.2; have hn2 := wr_num base wb n _ w1 hr1 (by rw [List.length_append]; have := HH.out.2.2.1; omega) (by omega); clear hr1 hk1 hn1)
    | (go_at_call 27; refine hlen1.mono ?_; rintro e w' ⟨rfl, hw⟩; subst w'; clear hlen1)
    | (go_at_call 59; refine hn2.mono ?_; rintro e w2 ⟨rfl, hr2, hk2⟩; have H2 := Hid.mk (And.intro hr2 (And.intro (H1.out.2.1.trans hk2) (hkp hk2 H1.out.2.2))); clear hr2 hk2 hn2)
    | (go_at_call 29; refine (hwo w2 H2.out.2.2).mono ?_; rintro e w3 ⟨vv, rfl, hv3, hm3⟩; have H3 := Hid.mk (And.intro (rd_of_own hv3) (And.intro hm3 (H2.out.2.2.more hm3))); have hlen3 := hlen w3 H3.out.2.2; have hwid3 := hwid w3 H3.out.2.2; clear hv3 hm3)
    | (go_at_call 27; refine hlen3.mono ?_; rintro e w' ⟨rfl, hw⟩; subst w'; clear hlen3)
    | (go_at_call 28; refine hwid3.mono ?_; rintro e w' ⟨rfl, hw⟩; subst w'; clear hwid3)
    | (go_at_call 52; refine (hof vv w3 H3.out.1).mono ?_; rintro e w4 ⟨rb, rfl, hr4, hk4⟩; have H4 := Hid.mk (And.intro hr4.rd (More.trans H3.out.2.1 hk4.below)); clear hr4 hk4)
    | (go_at_call 9; refine (sb_putRow base wb rb V B _ w4 (H2.out.1.more H4.out.2) H4.out.1 (by omega) (by simp only [List.length_append]; have := HH.out.2.2; omega)).mono ?_; rintro e w5 ⟨rfl, hr5, hk5⟩; have H5 := Hid.mk (And.intro hr5 hk5); clear hr5 hk5))
  first | go_ret | go_end0
  refine ⟨rfl, ?_, (H2.out.2.1.trans (KeepsT.more H4.out.2 H2.out.1.sz)).trans H5.out.2⟩
  have := H5.out.1
  rw [List.append_assoc, List.append_assoc] at this
  exact this

/-- What is read of bytes as a pack. -/
structure ReadsP (R : List UInt8) (E d n : Nat) (v : List UInt8) (t1 er1 t2 er2 t3 er : Nat) : Prop where
  one : st E 0 (bnd R 64 8) = (d, t1, er1)
  two : st er1 0 (bnd (R.drop t1) 1048576 8) = (n, t2, er2)
  three : st er2 [] (rdR (R.drop (t1 + t2)) (nby (d * n) : Nat)) = (v, t3, er)
theorem readsP_any (R : List UInt8) (E : Nat) : ∃ d n v t1 er1 t2 er2 t3 er, ReadsP R E d n v t1 er1 t2 er2 t3 er := ⟨_, _, _, _, _, _, _, _, _, rfl, rfl, rfl⟩

/-- What GetPack tells. -/
structure GotPack (w : World) (base b : Nat) (l : List UInt8) (a d n : Nat) (v : List UInt8) (t er : Nat) (e : Ending) (w' : World) : Prop where
  keeps : KeepsT RT base w w'
  what : (er ≠ 0 ∧ e = .returned (.pointer none) ∧ RdAt w' base b l (a + t) er) ∨
    (er = 0 ∧ ofB v < 2 ^ (d * n) ∧ RdAt w' base b l (a + t) 0 ∧ ∃ p, e = .returned (.pointer (some ⟨p, 0, none⟩)) ∧ PackAt w' w.heap.size p (ofB v) d n) ∨
    (er = 0 ∧ ¬ ofB v < 2 ^ (d * n) ∧ e = .returned (.pointer none) ∧ RdAt w' base b l (a + t) 3)

set_option maxHeartbeats 1600000 in
set_option maxRecDepth 1000000 in
theorem sb_getPack (base b a E d n t1 er1 t2 er2 t3 er : Nat) (v l : List UInt8) (w : World) (h : RdAt w base b l a E) (hR : ReadsP (l.drop a) E d n v t1 er1 t2 er2 t3 er) :
    Calls Tryd.prog 26 #[.pointer (some ⟨b, 0, none⟩)] w fun e w' => GotPack w base b l a d n v (t1 + t2 + t3) er e w' := by
  have h1 := rdr_upto base b a t1 er1 E d 64 l w h (by decide) hR.one
  have hb1 := st_bnd hR.one
  have htwo := hR.two
  have hb2 := st_bnd htwo
  rw [List.drop_drop] at htwo
  have h2 := fun w1 (h : RdAt w1 base b l (a + t1) er1) => rdr_upto base b (a + t1) t2 er2 er1 n 1048576 l w1 h (by decide) htwo
  have hd : d ≤ 64 := by omega
  have hn : n ≤ 1048576 := by omega
  have h3 := hR.three
  rw [List.drop_drop, ← Nat.add_assoc] at h3
  obtain ⟨B, hB⟩ : ∃ B, d * n = B := ⟨_, rfl⟩
  have hBb : B ≤ 67108864 := by rw [← hB]; exact Nat.mul_le_mul hd hn
  have hmul : (n : Int) * (d : Int) = (B : Int) := by rw [← hB, Int.natCast_mul, Int.mul_comm]
  have hwB : IntKind.i64.wrap (B : Int) = B := by rw [IntKind.wrap_i64]; omega
  rw [hB] at h3
  have hadd : ∀ (w' : World) E', RdAt w' base b l (a + t1 + t2 + t3) E' → RdAt w' base b l (a + (t1 + t2 + t3)) E' := fun w' E' h => by rw [Nat.add_assoc, Nat.add_assoc] at h; rw [Nat.add_assoc]; exact h
  by_cases h0 : er = 0
  · subst h0
    by_cases hfit : ofB v < 2 ^ B
    · have hrow := fun w1 (h : RdAt w1 base b l (a + t1 + t2) er2) => getRow_row base b (a + t1 + t2) er2 B t3 (B : Int) v l w1 h (by omega) (by omega) h3 hfit
      have hall : ofW (wd (ofB v)) (nw B) = ofB v := ofW_all (ofB v) (nw B) (Nat.lt_of_lt_of_le hfit (Nat.pow_le_pow_right (by decide) (by unfold nw; omega)))
      have hof := fun vv (w' : World) (hr : Rd w' vv (nw B) (wd (ofB v))) => pof_pack vv (nw B) d n (wd (ofB v)) w' hr (fun j _ => wd_lt _ j) hd (by omega) (by rw [hB]) (by rw [hall, hB]; exact hfit)
      rw [hall] at hof
      have HH := Hid.mk (And.intro h (And.intro (show ofB v < 2 ^ (d * n) by rw [hB]; exact hfit) hadd))
      clear h hR h3 hfit htwo hb1 hb2 hB hall hadd
      go_enter Tryd.func26, Tryd.ntmps26
      go_wp2_with (first
        | (go_at_call 64; refine h1.mono ?_; rintro e w1 ⟨rfl, hr1, hk1⟩; have H1 := Hid.mk (And.intro hr1 hk1); clear hr1 hk1 h1)
        | (go_at_call 64; refine (h2 w1 H1.out.1).mono ?_; rintro e w2 ⟨rfl, hr2, hk2⟩; have H2 := Hid.mk (And.intro hr2 (H1.out.2.trans hk2)); clear hr2 hk2 h2)
        | (go_at_call 12; refine (hrow w2 H2.out.1).mono ?_; rintro e w3 ⟨r, rfl, hr3, hd3, hk3⟩; have H3 := Hid.mk (And.intro hr3 (And.intro hd3 (H2.out.2.trans hk3))); have hwo := row_words _ r _ _ w3 hr3; clear hr3 hd3 hk3)
        | (go_at_call 20; refine hwo.mono ?_; rintro e w4 ⟨vv, rfl, hv4, hk4⟩; have H4 := Hid.mk (And.intro (rd_of_own hv4) hk4.below); clear hv4 hk4)
        | (go_at_call 65; refine (hof vv w4 H4.out.1).mono ?_; rintro e w5 ⟨p, rfl, hp5, hm5⟩; have H5 := Hid.mk (And.intro hp5 hm5); clear hp5 hm5))
      go_ret
      have hm := More.trans H4.out.2 H5.out.2
      exact ⟨H3.out.2.2.trans (KeepsT.more hm H3.out.2.1.sz), .inr (.inl ⟨rfl, HH.out.2.1, HH.out.2.2 _ _ (H3.out.2.1.more hm), p, rfl, H5.out.1.lower (Nat.le_trans H3.out.2.2.below.size H4.out.2.size)⟩)⟩
    · have hrow := fun w1 (h : RdAt w1 base b l (a + t1 + t2) er2) => getRow_form base b (a + t1 + t2) er2 B t3 (B : Int) v l w1 h (by omega) (by omega) h3 hfit
      have HH := Hid.mk (And.intro (show ¬ ofB v < 2 ^ (d * n) by rw [hB]; exact hfit) hadd)
      clear h hR h3 hfit htwo hb1 hb2 hB hadd
      go_enter Tryd.func26, Tryd.ntmps26
      go_wp2_with (first
        | (go_at_call 64; refine h1.mono ?_; rintro e w1 ⟨rfl, hr1, hk1⟩; have H1 := Hid.mk (And.intro hr1 hk1); clear hr1 hk1 h1)
        | (go_at_call 64; refine (h2 w1 H1.out.1).mono ?_; rintro e w2 ⟨rfl, hr2, hk2⟩; have H2 := Hid.mk (And.intro hr2 (H1.out.2.trans hk2)); clear hr2 hk2 h2)
        | (go_at_call 12; refine (hrow w2 H2.out.1).mono ?_; rintro e w3 ⟨rfl, hd3, hk3⟩; have H3 := Hid.mk (And.intro hd3 (H2.out.2.trans hk3)); clear hd3 hk3))
      go_ret
      exact ⟨H3.out.2, .inr (.inr ⟨rfl, HH.out.1, rfl, HH.out.2 _ _ H3.out.1⟩)⟩
  · have hrow := fun w1 (h : RdAt w1 base b l (a + t1 + t2) er2) => getRow_err base b (a + t1 + t2) er2 B t3 er (B : Int) v l w1 h (by omega) (by omega) h3 h0
    have HH := Hid.mk hadd
    clear h hR h3 htwo hb1 hb2 hB hadd
    go_enter Tryd.func26, Tryd.ntmps26
    go_wp2_with (first
      | (go_at_call 64; refine h1.mono ?_; rintro e w1 ⟨rfl, hr1, hk1⟩; have H1 := Hid.mk (And.intro hr1 hk1); clear hr1 hk1 h1)
      | (go_at_call 64; refine (h2 w1 H1.out.1).mono ?_; rintro e w2 ⟨rfl, hr2, hk2⟩; have H2 := Hid.mk (And.intro hr2 (H1.out.2.trans hk2)); clear hr2 hk2 h2)
      | (go_at_call 12; refine (hrow w2 H2.out.1).mono ?_; rintro e w3 ⟨rfl, hd3, hk3⟩; have H3 := Hid.mk (And.intro hd3 (H2.out.2.trans hk3)); clear hd3 hk3))
    go_ret
    exact ⟨H3.out.2, .inl ⟨h0, rfl, HH.out _ _ H3.out.1⟩⟩

set_option maxHeartbeats 1600000 in
set_option maxRecDepth 1000000 in
/-- The document's bytes of a pack. -/
theorem rsb_pack (v : Value) (K d : Nat) (f : Nat → Nat) (w : World) (h : Rd w v K f) (hf : ∀ j, j < K → f j < 2 ^ d) (hd : d ≤ 64) (hK : K ≤ 1000) :
    Calls Tryd.prog 24 #[.int .i64 d, v] w fun e w' => e = .returned (.string (bs (num d ++ (num K ++ rby (packV d f K) (d * K))))) ∧ More w w' := by
  obtain ⟨ao, cap, rfl⟩ := h.shape
  have hwd : IntKind.u64.wrap (d : Int) = d := by rw [IntKind.wrap_u64]; omega
  have hwK : IntKind.u64.wrap (K : Int) = K := by rw [IntKind.wrap_u64]; omega
  have hn1 := fun w => ref_num10 d (by omega) w
  have hn2 := fun w => ref_num10 K (by omega) w
  have hl1 := (num_ten (v := d) (by omega)).1
  have hl2 := (num_ten (v := K) (by omega)).1
  have hdK : d * K ≤ 64000 := Nat.mul_le_mul hd hK
  have hVK := packV_lt d f K hf
  have hrl := rby_len (packV d f K) (d * K)
  rw [nby_is] at hrl
  have ha1 := fun w => add_sum (num d) (num K) (by omega) w
  have ha2 := fun w => add_sum (num d ++ num K) (rby (packV d f K) (d * K)) (by rw [List.length_append]; omega) w
  rw [List.append_assoc] at ha2
  have HH := Hid.mk (And.intro h (And.intro hf (And.intro hd hVK)))
  have HZ := Hid.mk (And.intro ha1 ha2)
  clear h hf hl1 hl2 hrl hVK ha1 ha2
  go_enter Tryd.func24, Tryd.ntmps24
  go_wp2
  go_loopw [5, 6] (fun r i wr => ∃ k : Nat, k ≤ K ∧ i = .int .i64 k ∧ Hid (wr.ownsRow w.heap.size 4 1 r (d * k) (bools (packV d f k) (d * k)) ∧ More w wr)) (fun _ i _ => K - (intOf i).toNat)
  case atStart => exact ⟨0, Nat.zero_le _, rfl, Hid.mk ⟨World.ownsRow_nil _ _ _ _, Below.refl _ _⟩⟩
  case round =>
    obtain ⟨k, hk, rfl, hown⟩ := hrel
    have hV := packV_lt d f k fun j hj => HH.out.2.1 j (by omega)
    have hnl : d * k ≤ 64000 := Nat.le_trans (Nat.mul_le_mul_left d hk) hdK
    by_cases hkK : k < K
    · obtain ⟨g, o, rfl, hc⟩ := HH.out.1.cellP (w' := wr) k hkK
      have hck := hc hown.out.2
      clear hc
      have hx : f k < 18446744073709551616 := Nat.lt_of_lt_of_le (HH.out.2.1 k hkK) (pow_le64 HH.out.2.2.1)
      obtain ⟨ao1, cap1, hs⟩ := shape_of hown.out.1
      have hadd := ref_add w.heap.size (d * k) (packV d f k) (f k) d _ wr hown.out.1 hV hx (by omega) HH.out.2.2.1
      subst hs
      clear hV hx hnl HZ
      go_wp2_with (go_at_call 47; refine hadd.mono ?_; rintro e w1 ⟨v1, rfl, hown1, hm1⟩; have H1 := Hid.mk (And.intro (own_lower hown1 hown.out.2.size) (More.trans hown.out.2 hm1)); clear hown1 hm1; obtain ⟨ao2, cap2, hs2⟩ := shape_of H1.out.1; subst hs2)
      refine ⟨⟨k + 1, by omega, by go_num, Hid.mk H1.out⟩, by simp [intOf]; omega⟩
    · obtain rfl : k = K := by omega
      obtain ⟨ao1, cap1, hs⟩ := shape_of hown.out.1
      have hrow := fun (w' : World) (hm : More wr w') => rsb_row _ (d * k) (packV d f k) w' (BRd.more (brd_of_own hown.out.1) hm) hV (by omega)
      subst hs
      obtain ⟨ha1, ha2⟩ := HZ.out
      clear hV hnl
      obtain ⟨R, hRe⟩ : ∃ R, rby (packV d f k) (d * k) = R := ⟨_, rfl⟩
      obtain ⟨A, hAe⟩ : ∃ A, num d = A := ⟨_, rfl⟩
      obtain ⟨B, hBe⟩ : ∃ B, num k = B := ⟨_, rfl⟩
      rw [hRe] at hrow ha2
      rw [hAe] at hn1 ha1 ha2
      rw [hBe] at hn2 ha1 ha2
      obtain ⟨Y, hYe⟩ : ∃ Y, A ++ B = Y := ⟨_, rfl⟩
      obtain ⟨Z, hZe⟩ : ∃ Z, A ++ (B ++ R) = Z := ⟨_, rfl⟩
      rw [hYe] at ha1 ha2
      rw [hZe] at ha2
      have HE := Hid.mk (show num d ++ (num k ++ rby (packV d f k) (d * k)) = Z by rw [hRe, hAe, hBe, hZe])
      clear hRe hAe hBe hYe hZe
      go_wp2_with (first
        | (go_at_call_of 62 (Value.int .u64 (d : Int)); refine (hn1 _).mono ?_; rintro e w1 ⟨rfl, hm1⟩; have H1 := Hid.mk hm1; clear hm1 hn1)
        | (go_at_call 62; refine (hn2 _).mono ?_; rintro e w2 ⟨rfl, hm2⟩; have H2 := Hid.mk (More.trans H1.out hm2); clear hm2 hn2)
        | (go_at_call 13; refine (hrow w2 H2.out).mono ?_; rintro e w3 ⟨rfl, hm3⟩; have H3 := Hid.mk (More.trans H2.out hm3); clear hm3))
      go_ret
      exact ⟨by rw [HE.out]; rfl, More.trans hown.out.2 H3.out⟩

end Go.Proofs.YtbfolfacppbalaaDoor
