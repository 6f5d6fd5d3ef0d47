/-
  stream's Reader: take, the step that all reads share; Fixed, Unary, Gamma, Rice.
-/
import Derived.Test.YtgcjbkcfcklcfaaDoorStreamCodesB
namespace Go.Proofs.YtgcjbkcfcklcfaaDoor
open Go.RowKit

set_option maxHeartbeats 800000 in
set_option maxRecDepth 1000000 in
theorem take_unary (base b V n a v t er : Nat) (w : World) (h : RdAt w base b V n a 0) (hz : a + t ≤ n) (h0 : er ≠ 0 → v = 0 ∧ t = 0)
    (hG : Calls Tryd.prog 60 #[.pointer (some ⟨b, 0, none⟩), .int .i64 a] w fun e w' => Tells a v t er e ∧ ∃ j, w' = w.drewN j) :
    Calls Tryd.prog 51 #[.pointer (some ⟨b, 0, none⟩), .func (.func 60) #[.pointer (some ⟨b, 0, none⟩)] #[]] w fun e w' => e = .returned (.int .u64 v) ∧ RdAt w' base b V n (a + t) er ∧ Below base w w' := by
  obtain ⟨rb, hb, _⟩ := h.mem
  obtain ⟨_, c1, c2, z1, z2⟩ := cells3_at hb
  by_cases he : er = 0
  · subst he
    have HH := Hid.mk (fun m => And.intro ((h.more (More.drewN w m)).goes hz) ((More.drewN w m).mono h.sz))
    clear h hb h0 hz
    go_enter Tryd.func51, Tryd.ntmps51
    go_wp2_with (go_at_call 60; refine hG.mono ?_; rintro e w' ⟨⟨v', z, rfl, ht⟩, m, hw'⟩; subst w'; obtain ⟨rfl, rfl⟩ := ht rfl; clear ht)
    go_ret
    exact ⟨rfl, (HH.out m).1.1, (HH.out m).2.trans (HH.out m).1.2⟩
  · obtain ⟨rfl, rfl⟩ := h0 he
    have HH := Hid.mk (fun m => And.intro ((h.more (More.drewN w m)).errs (E' := er)) ((More.drewN w m).mono h.sz))
    have hne : ((er : Int) != 0) = true := by simp; omega
    clear h hb h0 hz
    go_enter Tryd.func51, Tryd.ntmps51
    go_wp2_with (go_at_call 60; refine hG.mono ?_; rintro e w' ⟨⟨v', z, rfl, ht⟩, m, hw'⟩; subst w'; clear ht)
    go_ret
    exact ⟨rfl, (HH.out m).1.1, (HH.out m).2.trans (HH.out m).1.2⟩

set_option maxRecDepth 1000000 in
theorem stay_unary (base b V n a E : Nat) (w : World) (h : RdAt w base b V n a E) (hE : E ≠ 0) :
    Calls Tryd.prog 51 #[.pointer (some ⟨b, 0, none⟩), .func (.func 60) #[.pointer (some ⟨b, 0, none⟩)] #[]] w fun e w' => e = .returned (.int .u64 0) ∧ w' = w := by
  obtain ⟨rb, hb, _⟩ := h.mem
  obtain ⟨_, c1, c2, z1, z2⟩ := cells3_at hb
  have hne : ((E : Int) != 0) = true := by simp; omega
  clear h hb hE
  go_enter Tryd.func51, Tryd.ntmps51
  go_wp2
  go_ret
  exact ⟨rfl, rfl⟩

set_option maxRecDepth 1000000 in
theorem nil_unary (w : World) :
    Calls Tryd.prog 51 #[.pointer none, .func (.func 60) #[.pointer none] #[]] w fun e w' => e = .returned (.int .u64 0) ∧ w' = w := by
  go_enter Tryd.func51, Tryd.ntmps51
  go_wp2
  go_ret
  exact ⟨rfl, rfl⟩

set_option maxHeartbeats 800000 in
set_option maxRecDepth 1000000 in
theorem take_gamma (base b V n a v t er : Nat) (w : World) (h : RdAt w base b V n a 0) (hz : a + t ≤ n) (h0 : er ≠ 0 → v = 0 ∧ t = 0)
    (hG : Calls Tryd.prog 52 #[.pointer (some ⟨b, 0, none⟩), .int .i64 a] w fun e w' => Tells a v t er e ∧ ∃ j, w' = w.drewN j) :
    Calls Tryd.prog 51 #[.pointer (some ⟨b, 0, none⟩), .func (.func 52) #[.pointer (some ⟨b, 0, none⟩)] #[]] w fun e w' => e = .returned (.int .u64 v) ∧ RdAt w' base b V n (a + t) er ∧ Below base w w' := by
  obtain ⟨rb, hb, _⟩ := h.mem
  obtain ⟨_, c1, c2, z1, z2⟩ := cells3_at hb
  by_cases he : er = 0
  · subst he
    have HH := Hid.mk (fun m => And.intro ((h.more (More.drewN w m)).goes hz) ((More.drewN w m).mono h.sz))
    clear h hb h0 hz
    go_enter Tryd.func51, Tryd.ntmps51
    go_wp2_with (go_at_call 52; refine hG.mono ?_; rintro e w' ⟨⟨v', z, rfl, ht⟩, m, hw'⟩; subst w'; obtain ⟨rfl, rfl⟩ := ht rfl; clear ht)
    go_ret
    exact ⟨rfl, (HH.out m).1.1, (HH.out m).2.trans (HH.out m).1.2⟩
  · obtain ⟨rfl, rfl⟩ := h0 he
    have HH := Hid.mk (fun m => And.intro ((h.more (More.drewN w m)).errs (E' := er)) ((More.drewN w m).mono h.sz))
    have hne : ((er : Int) != 0) = true := by simp; omega
    clear h hb h0 hz
    go_enter Tryd.func51, Tryd.ntmps51
    go_wp2_with (go_at_call 52; refine hG.mono ?_; rintro e w' ⟨⟨v', z, rfl, ht⟩, m, hw'⟩; subst w'; clear ht)
    go_ret
    exact ⟨rfl, (HH.out m).1.1, (HH.out m).2.trans (HH.out m).1.2⟩

set_option maxRecDepth 1000000 in
theorem stay_gamma (base b V n a E : Nat) (w : World) (h : RdAt w base b V n a E) (hE : E ≠ 0) :
    Calls Tryd.prog 51 #[.pointer (some ⟨b, 0, none⟩), .func (.func 52) #[.pointer (some ⟨b, 0, none⟩)] #[]] w fun e w' => e = .returned (.int .u64 0) ∧ w' = w := by
  obtain ⟨rb, hb, _⟩ := h.mem
  obtain ⟨_, c1, c2, z1, z2⟩ := cells3_at hb
  have hne : ((E : Int) != 0) = true := by simp; omega
  clear h hb hE
  go_enter Tryd.func51, Tryd.ntmps51
  go_wp2
  go_ret
  exact ⟨rfl, rfl⟩

set_option maxRecDepth 1000000 in
theorem nil_gamma (w : World) :
    Calls Tryd.prog 51 #[.pointer none, .func (.func 52) #[.pointer none] #[]] w fun e w' => e = .returned (.int .u64 0) ∧ w' = w := by
  go_enter Tryd.func51, Tryd.ntmps51
  go_wp2
  go_ret
  exact ⟨rfl, rfl⟩

set_option maxHeartbeats 800000 in
set_option maxRecDepth 1000000 in
theorem take_fixed (base b V n a v t er x1 x2 : Nat) (w : World) (h : RdAt w base b V n a 0) (hz : a + t ≤ n) (h0 : er ≠ 0 → v = 0 ∧ t = 0)
    (hG : Calls Tryd.prog 58 #[.int .i64 a, .pointer (some ⟨x1, 0, none⟩), .pointer (some ⟨x2, 0, none⟩)] w fun e w' => Tells a v t er e ∧ ∃ j, w' = w.drewN j) :
    Calls Tryd.prog 51 #[.pointer (some ⟨b, 0, none⟩), .func (.func 58) #[] #[.pointer (some ⟨x1, 0, none⟩), .pointer (some ⟨x2, 0, none⟩)]] w fun e w' => e = .returned (.int .u64 v) ∧ RdAt w' base b V n (a + t) er ∧ Below base w w' := by
  obtain ⟨rb, hb, _⟩ := h.mem
  obtain ⟨_, c1, c2, z1, z2⟩ := cells3_at hb
  by_cases he : er = 0
  · subst he
    have HH := Hid.mk (fun m => And.intro ((h.more (More.drewN w m)).goes hz) ((More.drewN w m).mono h.sz))
    clear h hb h0 hz
    go_enter Tryd.func51, Tryd.ntmps51
    go_wp2_with (go_at_call 58; refine hG.mono ?_; rintro e w' ⟨⟨v', z, rfl, ht⟩, m, hw'⟩; subst w'; obtain ⟨rfl, rfl⟩ := ht rfl; clear ht)
    go_ret
    exact ⟨rfl, (HH.out m).1.1, (HH.out m).2.trans (HH.out m).1.2⟩
  · obtain ⟨rfl, rfl⟩ := h0 he
    have HH := Hid.mk (fun m => And.intro ((h.more (More.drewN w m)).errs (E' := er)) ((More.drewN w m).mono h.sz))
    have hne : ((er : Int) != 0) = true := by simp; omega
    clear h hb h0 hz
    go_enter Tryd.func51, Tryd.ntmps51
    go_wp2_with (go_at_call 58; refine hG.mono ?_; rintro e w' ⟨⟨v', z, rfl, ht⟩, m, hw'⟩; subst w'; clear ht)
    go_ret
    exact ⟨rfl, (HH.out m).1.1, (HH.out m).2.trans (HH.out m).1.2⟩

set_option maxRecDepth 1000000 in
theorem stay_fixed (base b V n a E x1 x2 : Nat) (w : World) (h : RdAt w base b V n a E) (hE : E ≠ 0) :
    Calls Tryd.prog 51 #[.pointer (some ⟨b, 0, none⟩), .func (.func 58) #[] #[.pointer (some ⟨x1, 0, none⟩), .pointer (some ⟨x2, 0, none⟩)]] w fun e w' => e = .returned (.int .u64 0) ∧ w' = w := by
  obtain ⟨rb, hb, _⟩ := h.mem
  obtain ⟨_, c1, c2, z1, z2⟩ := cells3_at hb
  have hne : ((E : Int) != 0) = true := by simp; omega
  clear h hb hE
  go_enter Tryd.func51, Tryd.ntmps51
  go_wp2
  go_ret
  exact ⟨rfl, rfl⟩

set_option maxRecDepth 1000000 in
theorem nil_fixed (x1 x2 : Nat) (w : World) :
    Calls Tryd.prog 51 #[.pointer none, .func (.func 58) #[] #[.pointer (some ⟨x1, 0, none⟩), .pointer (some ⟨x2, 0, none⟩)]] w fun e w' => e = .returned (.int .u64 0) ∧ w' = w := by
  go_enter Tryd.func51, Tryd.ntmps51
  go_wp2
  go_ret
  exact ⟨rfl, rfl⟩

set_option maxHeartbeats 800000 in
set_option maxRecDepth 1000000 in
theorem take_rice (base b V n a v t er x1 x2 : Nat) (w : World) (h : RdAt w base b V n a 0) (hz : a + t ≤ n) (h0 : er ≠ 0 → v = 0 ∧ t = 0)
    (hG : Calls Tryd.prog 53 #[.int .i64 a, .pointer (some ⟨x1, 0, none⟩), .pointer (some ⟨x2, 0, none⟩)] w fun e w' => Tells a v t er e ∧ ∃ j, w' = w.drewN j) :
    Calls Tryd.prog 51 #[.pointer (some ⟨b, 0, none⟩), .func (.func 53) #[] #[.pointer (some ⟨x1, 0, none⟩), .pointer (some ⟨x2, 0, none⟩)]] w fun e w' => e = .returned (.int .u64 v) ∧ RdAt w' base b V n (a + t) er ∧ Below base w w' := by
  obtain ⟨rb, hb, _⟩ := h.mem
  obtain ⟨_, c1, c2, z1, z2⟩ := cells3_at hb
  by_cases he : er = 0
  · subst he
    have HH := Hid.mk (fun m => And.intro ((h.more (More.drewN w m)).goes hz) ((More.drewN w m).mono h.sz))
    clear h hb h0 hz
    go_enter Tryd.func51, Tryd.ntmps51
    go_wp2_with (go_at_call 53; refine hG.mono ?_; rintro e w' ⟨⟨v', z, rfl, ht⟩, m, hw'⟩; subst w'; obtain ⟨rfl, rfl⟩ := ht rfl; clear ht)
    go_ret
    exact ⟨rfl, (HH.out m).1.1, (HH.out m).2.trans (HH.out m).1.2⟩
  · obtain ⟨rfl, rfl⟩ := h0 he
    have HH := Hid.mk (fun m => And.intro ((h.more (More.drewN w m)).errs (E' := er)) ((More.drewN w m).mono h.sz))
    have hne : ((er : Int) != 0) = true := by simp; omega
    clear h hb h0 hz
    go_enter Tryd.func51, Tryd.ntmps51
    go_wp2_with (go_at_call 53; refine hG.mono ?_; rintro e w' ⟨⟨v', z, rfl, ht⟩, m, hw'⟩; subst w'; clear ht)
    go_ret
    exact ⟨rfl, (HH.out m).1.1, (HH.out m).2.trans (HH.out m).1.2⟩

set_option maxRecDepth 1000000 in
theorem stay_rice (base b V n a E x1 x2 : Nat) (w : World) (h : RdAt w base b V n a E) (hE : E ≠ 0) :
    Calls Tryd.prog 51 #[.pointer (some ⟨b, 0, none⟩), .func (.func 53) #[] #[.pointer (some ⟨x1, 0, none⟩), .pointer (some ⟨x2, 0, none⟩)]] w fun e w' => e = .returned (.int .u64 0) ∧ w' = w := by
  obtain ⟨rb, hb, _⟩ := h.mem
  obtain ⟨_, c1, c2, z1, z2⟩ := cells3_at hb
  have hne : ((E : Int) != 0) = true := by simp; omega
  clear h hb hE
  go_enter Tryd.func51, Tryd.ntmps51
  go_wp2
  go_ret
  exact ⟨rfl, rfl⟩

set_option maxRecDepth 1000000 in
theorem nil_rice (x1 x2 : Nat) (w : World) :
    Calls Tryd.prog 51 #[.pointer none, .func (.func 53) #[] #[.pointer (some ⟨x1, 0, none⟩), .pointer (some ⟨x2, 0, none⟩)]] w fun e w' => e = .returned (.int .u64 0) ∧ w' = w := by
  go_enter Tryd.func51, Tryd.ntmps51
  go_wp2
  go_ret
  exact ⟨rfl, rfl⟩

end Go.Proofs.YtgcjbkcfcklcfaaDoor
