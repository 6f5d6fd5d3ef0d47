/-
  elias's All, walked: the numbers of a sequence, each with its place, as long as it is told to go on.
-/
import Derived.Test.YtbjgbigalfhnjaaGreatDoorSet17
import Derived.Test.YtbjgbigalfhnjaaGreatDoorSelFromA
import Derived.Test.YtbjgbigalfhnjaaGreatDoorRangeSet
import Derived.BigQuiet
import Derived.OrdersIn
namespace Go.Proofs.YtbjgbigalfhnjaaGreatDoor
open Go.RowKit Go.Shelf
attribute [local go_sem] Oper.semAt_some

/-- A region that draws its order, by a word that holds at every point of every order. -/
theorem any_inv {F : Fence} {n : Nat} {P : Program} {md : Region.Mode} {ops : Array Oper} {Q : Exit → Act → World → Prop} (I : Nat → Array Bool → Act → World → Prop)
    (hz : ∀ l a w, I 0 l a w → Region.ready md ops l = [] ∧ Q .normal a w)
    (hs : ∀ k l a w, I (k + 1) l a w → Region.ready md ops l ≠ [] ∧ ∀ i ∈ Region.ready md ops l, wpOpIn F n P ops Q i (I k (l.setIfInBounds i true)) a w) :
    ∀ k l a w, I k l a w → wpAnyIn F n P md ops Q k l a w := by
  intro k
  induction k with
  | zero => intro l a w h; exact hz l a w h
  | succ k ih =>
    intro l a w h
    obtain ⟨h1, h2⟩ := hs k l a w h
    exact ⟨fun h0 => absurd h0 h1, fun i hi => wpOpIn_mono (fun a' w' h' => ih _ a' w' h') (h2 i hi)⟩

/-- What number tells of any place and any one. -/
def numZ (f : Nat → Nat) (n : Nat) (i q : Int) : Int := bits .or .i64 (wrap64 (wrap64 (q - i) * 2 ^ wdt f n)) (wrap64 ((atV (packV (wdt f n) (fun j => f j % 2 ^ wdt f n) n) (wdt f n) n i : Nat) : Int))
theorem numZ_in {f : Nat → Nat} {n : Nat} (h : Climbs f n) (i : Nat) (hi : i < n) : numZ f n i (hp f (wdt f n) i : Nat) = f i := by
  unfold numZ
  rw [atV_pack _ _ _ _ (fun j _ => Nat.mod_lt _ (Nat.two_pow_pos _)) hi]
  exact joined (f i) i (wdt f n) _ (h.top i hi) rfl
theorem el_number_any (base s : Nat) (i q : Int) (f : Nat → Nat) (n : Nat) (w : World) (h : SeqAt w base s f n) :
    Calls Tryz.prog 59 #[.pointer (some ⟨s, 0, none⟩), .int .i64 i, .int .i64 q] w fun e w' => e = .returned (.int .i64 (numZ f n i q)) ∧ ∃ m, w' = w.drewN m := by
  obtain ⟨p, d, hr⟩ := h.rd
  have c0 := hr.c0
  have hw := fun m => pack_width p _ _ n (w.drewN m) (hr.pk.rd.drewN m)
  have ha := fun m => pack_at p _ _ n i (w.drewN m) (hr.pk.rd.drewN m)
  have hd := wdt_le h.climbs
  have hz : numZ f n i q = bits .or .i64 (wrap64 (wrap64 (q - i) * 2 ^ wdt f n)) (wrap64 ((atV (packV (wdt f n) (fun j => f j % 2 ^ wdt f n) n) (wdt f n) n i : Nat) : Int)) := rfl
  generalize atV (packV (wdt f n) (fun j => f j % 2 ^ wdt f n) n) (wdt f n) n i = X at ha hz
  generalize wdt f n = D at *
  have HZ := Hid.mk hz
  clear h hr hz
  go_enter Tryz.func59, Tryz.ntmps59
  go_wp2
  go_quiet (first | (go_at_call 45; exact Calls.quiet_of_same (hw _)) | (go_at_call 85; exact Calls.quiet_of (ha _)))
  go_wp2
  go_ret
  exact ⟨by rw [HZ.out]; rfl, _, rfl⟩

/-- The first k numbers, each with its place. -/
def allZ (f : Nat → Nat) (k : Nat) : List (Int × Int) := (List.range k).map fun (j : Nat) => ((j : Int), (f j : Int))
theorem allZ_len (f : Nat → Nat) (k : Nat) : (allZ f k).length = k := by simp [allZ]
theorem allZ_succ (f : Nat → Nat) (k : Nat) : allZ f (k + 1) = allZ f k ++ [((k : Int), (f k : Int))] := by simp [allZ, List.range_succ]
/-- What All hands on of what From hands over. -/
def trA (f : Nat → Nat) (n : Nat) (pre : List (Int × Int)) : List (Int × Int) := pre.map fun x => (x.1, numZ f n x.1 x.2)
theorem trA_len (f : Nat → Nat) (n : Nat) (pre : List (Int × Int)) : (trA f n pre).length = pre.length := by simp [trA]
theorem trA_snoc (f : Nat → Nat) (n : Nat) (pre : List (Int × Int)) (x y : Int) : trA f n (pre ++ [(x, y)]) = trA f n pre ++ [(x, numZ f n x y)] := by simp [trA]
theorem trA_all {f : Nat → Nat} {n : Nat} (h : Climbs f n) (c : Nat) (hc : c ≤ n) : trA f n (goL (hV f (wdt f n) n) (hN f (wdt f n) n) 0 c) = allZ f c := by
  induction c with
  | zero => simp [trA, goL, allZ]
  | succ c ih =>
    rw [goL_succ, trA_snoc, ih (by omega), allZ_succ, Nat.zero_add, pl_hp h _ (by omega), numZ_in h c (by omega)]

/-- A slot that is filled, or not yet. -/
def sl (b : Bool) (v : Value) : Value := bif b then v else undef
/-- Which operations of All's round may come up. -/
def comesUp (b0 b1 b2 b3 b4 b5 : Bool) (i : Nat) : Bool :=
  (i == 0 && !b0) || (i == 1 && !b1) || (i == 2 && !b2) || (i == 3 && !b3) || (i == 4 && !b4) || (i == 5 && (!b5 && (b2 && (b3 && b4)))) || (i == 6 && (b0 && (b1 && b5)))
def tidy (ops : Array Oper) : Bool := decide (∀ b0 b1 b2 b3 b4 b5 : Bool, (b5 = true → b2 = true ∧ b3 = true ∧ b4 = true) → Region.ready .any ops #[b0, b1, b2, b3, b4, b5, false, false] ≠ [] ∧ ∀ i ∈ Region.ready .any ops #[b0, b1, b2, b3, b4, b5, false, false], comesUp b0 b1 b2 b3 b4 b5 i = true)
theorem tidy_use {ops : Array Oper} (h : tidy ops = true) (b0 b1 b2 b3 b4 b5 : Bool) (hb : b5 = true → b2 = true ∧ b3 = true ∧ b4 = true) :
    Region.ready .any ops #[b0, b1, b2, b3, b4, b5, false, false] ≠ [] ∧ ∀ i ∈ Region.ready .any ops #[b0, b1, b2, b3, b4, b5, false, false], comesUp b0 b1 b2 b3 b4 b5 i = true :=
  of_decide_eq_true h b0 b1 b2 b3 b4 b5 hb

theorem only_one {ops : Array Oper} {ls : Array Bool} {i : Nat} (j : Nat) (h : Region.ready .any ops ls = [j]) (hi : i ∈ Region.ready .any ops ls) : i = j := by rw [h] at hi; simpa using hi
/-- All's frame within a round: the eight operations' slots behind the others. -/
def frA (l Bs Bw s d : Nat) (x1 x2 : Int) (v0 v1 v2 v3 v4 v5 v6 v7 : Value) : Act :=
  { tmps := #[.func (.yield l) #[] #[], .pointer (some ⟨Bs, 0, none⟩), .pointer (some ⟨Bw, 0, none⟩), .int .i64 x1, .int .i64 x2, .pointer (some ⟨s, 0, none⟩), .bool false, .pointer (some ⟨s, 0, none⟩), .pointer (some ⟨s, 0, none⟩), .pointer (some ⟨s, 1, none⟩), .pointer (some ⟨d, 0, none⟩), .func (.func 102) #[] #[.pointer (some ⟨Bw + 1 + 1, 0, none⟩), .pointer (some ⟨Bw + 1, 0, none⟩)], .int .i64 x1, .int .i64 x2, v0, v1, v2, v3, v4, v5, v6, v7], defers := [] }
theorem sl_true (v : Value) : sl true v = v := rfl
def left6 (b0 b1 b2 b3 b4 b5 : Bool) : Nat := (!b0).toNat + (!b1).toNat + (!b2).toNat + (!b3).toNat + (!b4).toNat + (!b5).toNat

theorem one_mark {C : Nat → Prop} {D : Nat} (h : ¬ C D) : ∀ d ∈ [({ target := .collected D, args := #[] } : Deferred)], ∀ D', d.target = .collected D' → ¬ C D' := fun d hd D' he => by
  rcases List.mem_cons.1 hd with rfl | hd
  · cases he; exact h
  · cases hd

theorem from_call (n d : Nat) (k : Int) (w : World) : CallsIn Fence.wide n Tryz.prog 89 #[.pointer (some ⟨d, 0, none⟩), .int .i64 k] w fun e w' => e = .returned (.func (.func 102) #[] #[.pointer (some ⟨w.heap.size + 1, 0, none⟩), .pointer (some ⟨w.heap.size, 0, none⟩)]) ∧ w' = (w.alloc (.cells #[.pointer (some ⟨d, 0, none⟩)] 87)).alloc (.cells #[.int .i64 k] 3) := by
  refine callsIn_of_wp Tryz.func89 rfl trivial ?_ rfl
  simp only [Tryz.ntmps89, List.size_toArray, List.length_cons, List.length_nil, Nat.reduceAdd, Nat.reduceSub, Array.replicate_succ, Array.replicate_zero, List.push_toArray, List.append_toArray, List.nil_append, List.cons_append]
  gi_wp2
  go_ret
  exact ⟨rfl, rfl⟩
theorem eall_call (n s : Nat) (w : World) : CallsIn Fence.wide n Tryz.prog 62 #[.pointer (some ⟨s, 0, none⟩)] w fun e w' => e = .returned (.func (.func 88) #[] #[.pointer (some ⟨w.heap.size, 0, none⟩)]) ∧ w' = w.alloc (.cells #[.pointer (some ⟨s, 0, none⟩)] 49) := by
  refine callsIn_of_wp Tryz.func62 rfl trivial ?_ rfl
  simp only [Tryz.ntmps62, List.size_toArray, List.length_cons, List.length_nil, Nat.reduceAdd, Nat.reduceSub, Array.replicate_succ, Array.replicate_zero, List.push_toArray, List.append_toArray, List.nil_append, List.cons_append]
  gi_wp2
  go_ret
  exact ⟨rfl, rfl⟩

set_option maxRecDepth 1000000 in
set_option maxHeartbeats 4000000 in
theorem eall_in (n : Nat) (hn : 8 ≤ n) (Bs base s : Nat) (f : Nat → Nat) (N : Nat) (wA : World) (hA : SeqAt wA base s f N) (hT : TabIn wA) :
    SeqSet Fence.wide n Tryz.prog 88 #[.pointer (some ⟨Bs, 0, none⟩)] encP wA.heap.size (fun A => Boxed A Bs 49 (.pointer (some ⟨s, 0, none⟩))) (fun xs => xs = allZ f N) (fun pre => ∃ c, c ≤ N ∧ pre = allZ f c) N wA := by
  intro l J Jx W C0 hW hC0 hlo hJ hJx hKp hY h0
  have bs := hKp _ _ _ h0
  have h1 : 1 ≤ n := by omega
  obtain ⟨w0, hw0⟩ : ∃ w0, W.alloc (.cells #[.func (.yield l) #[] #[]] 94) = w0 := ⟨_, rfl⟩
  have hm0 : More W w0 := by rw [← hw0]; exact more_alloc _ _
  have b2 : Boxed w0 W.heap.size 94 (.func (.yield l) #[] #[]) := by rw [← hw0]; exact Boxed.new _ _ _
  have hs0 : w0.heap.size = W.heap.size + 1 := by rw [← hw0]; simp
  have hA0 := More.trans hW hm0
  have cs := (boxed_more bs hm0).cell
  obtain ⟨p, d, hr⟩ := hA.rd
  have c1 := (hr.more hA0).c1
  have HH := Hid.mk (And.intro hA (And.intro bs (And.intro hT (And.intro hr (And.intro b2 (And.intro hm0 (And.intro hA0 hs0)))))))
  clear hA bs hT hr b2 hm0 hA0
  refine callsIn_of_wp_marks Tryz.func88 rfl trivial ?_ rfl
  simp only [Tryz.ntmps88, List.size_toArray, List.length_cons, List.length_nil, Nat.reduceAdd, Nat.reduceSub, Array.replicate_succ, Array.replicate_zero, List.push_toArray, List.append_toArray, List.nil_append, List.cons_append]
  gi_wp2_with (refine ⟨trivial, ?_⟩; gi_at_call 89; refine (from_call _ _ _ _).mono ?_; rintro e w' ⟨rfl, hw'⟩; subst w')
  obtain ⟨w1, hw1⟩ : ∃ w1, (w0.alloc (.cells #[.pointer (some ⟨d, 0, none⟩)] 87)).alloc (.cells #[.int .i64 0] 3) = w1 := ⟨_, rfl⟩
  have hm1 : More w0 w1 := by rw [← hw1]; exact (more_alloc _ _).alloc (more_alloc _ _).size _
  have hs1 : w1.heap.size = W.heap.size + 3 := by rw [← hw1]; simp [hs0]
  have bd : Boxed w1 (W.heap.size + 1) 87 (.pointer (some ⟨d, 0, none⟩)) := by rw [← hw1, ← hs0]; exact (Boxed.new _ _ _).alloc _
  have bk : Boxed w1 (W.heap.size + 1 + 1) 3 (.int .i64 0) := by
    have := Boxed.new (w0.alloc (.cells #[.pointer (some ⟨d, 0, none⟩)] 87)) 3 (.int .i64 0)
    rw [World.size_alloc, hs0] at this
    rw [← hw1]; exact this
  have hA1 := More.trans HH.out.2.2.2.2.2.2.1 hm1
  have hseq := from_in (n - 1) (by omega) (W.heap.size + 1 + 1) (W.heap.size + 1) base d _ _ 0 wA w1 hA1 HH.out.2.2.2.1.dr bk bd HH.out.2.2.1
  rw [rk_all HH.out.1.climbs, show (0 : Int).toNat = 0 from rfl, Nat.sub_zero] at hseq
  have hW1 := More.trans HH.out.2.2.2.2.2.1 hm1
  have b21 := boxed_more HH.out.2.2.2.2.1 hm1
  rw [hw1]
  have HC := Hid.mk HH.out.1
  have HS := Hid.mk (And.intro HH.out.1 HH.out.2.1)
  clear hw1 hw0 cs c1 HH bd bk
  refine range_set rfl h1 (gf := 102) (lb := #[.pointer (some ⟨W.heap.size + 1 + 1, 0, none⟩), .pointer (some ⟨W.heap.size + 1, 0, none⟩)]) rfl trivial (enters_of Tryz.func102 (by kernel_rfl) rfl)
    hseq (by omega) (Below.refl _ _) (fun _ => rfl)
    (fun pre E V => ∃ C, J (trA f N pre) C V ∧ Boxed V W.heap.size 94 (.func (.yield l) #[] #[]) ∧ More wA V ∧ ¬ C W.heap.size ∧ Within C V ∧ (∀ k, C k → E k) ∧ (∀ k, k < w1.heap.size → E k))
    (fun c pre E V => c = .ret ∧ ∃ C, Jx (trA f N pre) C V ∧ Within C V ∧ (∀ k, C k → E k))
    (fun s E A A' ⟨C, h1, h2, h3, h4, h5, h6, h7⟩ k => ⟨C, hJ _ _ _ _ h1 (k.sub h6), k.boxed h2 (h7 _ (by omega)), Below.trans h3 (k.below fun j hj => h7 j (by omega)), h4, h5.more k.size, h6, h7⟩)
    (fun c s E A A' ⟨h0, C, h1, h2, h3⟩ k => ⟨h0, C, hJx _ _ _ _ h1 (k.sub h3), h2.more k.size, h3⟩)
    (fun _ _ _ _ => trivial) ⟨C0, hJ _ _ _ _ h0 (Stay.of_more hW1 hC0), b21, hA1, (fun h => by have := hC0 _ h; omega), hC0.more hW1.size, (fun k hk => by have := hC0 _ hk; omega), (fun _ h => h)⟩
    (fun x => { tmps := #[.func (.yield l) #[] #[], .pointer (some ⟨Bs, 0, none⟩), .pointer (some ⟨W.heap.size, 0, none⟩), .int .i64 x.1, .int .i64 x.2, .pointer (some ⟨s, 0, none⟩), .bool false, .pointer (some ⟨s, 0, none⟩), .pointer (some ⟨s, 0, none⟩), .pointer (some ⟨s, 1, none⟩), .pointer (some ⟨d, 0, none⟩), .func (.func 102) #[] #[.pointer (some ⟨W.heap.size + 1 + 1, 0, none⟩), .pointer (some ⟨W.heap.size + 1, 0, none⟩)], .int .i64 x.1, .int .i64 x.2, undef, undef, undef, undef, undef, undef, undef, undef], defers := [] }) ?assign ?body ?done ?stop
  case assign =>
    intro l2 x V K' hK'
    gi_wp2
    exact hK'
  case body =>
    rintro l2 pre ⟨x1, x2⟩ V E hSp ⟨C, hJs, b2, hM, nC, hwi, hCE, hE⟩ hwE _ hsz hlen
    have hSpA : Hid (∃ c, c ≤ N ∧ trA f N (pre ++ [(x1, x2)]) = allZ f c) := Hid.mk (by obtain ⟨c, hc, he⟩ := hSp; exact ⟨c, hc, by rw [he]; exact trA_all HC.out.climbs c hc⟩)
    clear hSp
    have hd : 1 ≤ n - 1 - 1 := by omega
    have hd2 : 1 ≤ n - 1 - 1 - 1 := by omega
    gi_wp2
    have hJd : ∀ m, J (trA f N pre) C (V.drewN m) := fun m => hJ _ _ _ _ hJs (Stay.of_more (More.drewN V m) hwi)
    have hnum := fun m => el_number_any base s x1 x2 f N (V.drewN m) ((HS.out.1.more hM).more (More.drewN V m))
    have cY := b2.cell
    have cS := (hKp _ _ _ hJs).cell
    obtain ⟨Z, hZ⟩ : ∃ Z, numZ f N x1 x2 = Z := ⟨_, rfl⟩
    rw [hZ] at hnum
    have hsnoc := trA_snoc f N pre x1 x2
    rw [hZ] at hsnoc
    have HV := Hid.mk (And.intro hsnoc (And.intro b2 (And.intro hM hJd)))
    clear hJs b2 hM hsnoc hJd hZ hseq hm1 hA1 hW1 b21
    refine wpIn_region_any (by kernel_rfl) ?_
    refine any_inv (fun k ls a V' =>
      (∃ (b0 b1 b2 b3 b4 b5 : Bool) (m : Nat), k = 2 + left6 b0 b1 b2 b3 b4 b5 ∧ ls = #[b0, b1, b2, b3, b4, b5, false, false] ∧ (b5 = true → b2 = true ∧ b3 = true ∧ b4 = true) ∧ V' = V.drewN m ∧ a = frA l Bs W.heap.size s d x1 x2 (sl b0 (.func (.yield l) #[] #[])) (sl b1 (.int .i64 x1)) (sl b2 (.pointer (some ⟨s, 0, none⟩))) (sl b3 (.int .i64 x1)) (sl b4 (.int .i64 x2)) (sl b5 (.int .i64 Z)) undef undef) ∨
      (∃ B : Bool, k = 1 ∧ ls = #[true, true, true, true, true, true, true, false] ∧ ((B = true ∧ ∃ C', J (trA f N (pre ++ [(x1, x2)])) C' V' ∧ Turn wA.heap.size C C' V V') ∨ (B = false ∧ ∃ C', Jx (trA f N (pre ++ [(x1, x2)])) C' V' ∧ Turn 0 C C' V V')) ∧ a = frA l Bs W.heap.size s d x1 x2 (.func (.yield l) #[] #[]) (.int .i64 x1) (.pointer (some ⟨s, 0, none⟩)) (.int .i64 x1) (.int .i64 x2) (.int .i64 Z) (.bool B) undef) ∨
      (∃ B : Bool, k = 0 ∧ ls = #[true, true, true, true, true, true, true, true] ∧ ((B = true ∧ ∃ C', J (trA f N (pre ++ [(x1, x2)])) C' V' ∧ Turn wA.heap.size C C' V V') ∨ (B = false ∧ ∃ C', Jx (trA f N (pre ++ [(x1, x2)])) C' V' ∧ Turn 0 C C' V V')) ∧ a = frA l Bs W.heap.size s d x1 x2 (.func (.yield l) #[] #[]) (.int .i64 x1) (.pointer (some ⟨s, 0, none⟩)) (.int .i64 x1) (.int .i64 x2) (.int .i64 Z) (.bool B) (.bool !B))) ?z ?s _ _ _ _ ?st
    case st => exact .inl ⟨false, false, false, false, false, false, 1, rfl, rfl, (fun h => by cases h), rfl, rfl⟩
    case z =>
      rintro ls a V' (⟨b0, b1, b2, b3, b4, b5, m, hk, _⟩ | ⟨B, hk, _⟩ | ⟨B, _, rfl, hp, rfl⟩)
      · omega
      · omega
      · refine ⟨by kernel_rfl, ?_⟩
        unfold frA
        rcases hp with ⟨rfl, C', hj, ho⟩ | ⟨rfl, C', hj, ho⟩
        · have hbx := ho.boxed HV.out.2.1 nC
          have hmv := Below.trans HV.out.2.2.1 (ho.below HV.out.2.2.1.size)
          have HO := Hid.mk (And.intro hj (And.intro (ho.wide hCE) (And.intro hbx (And.intro hmv (And.intro (ho.off nC HV.out.2.1.lt) (And.intro (ho.within hwi) (ho.wider hCE)))))))
          clear hj ho hbx hmv
          gi_wp2
          exact ⟨_, HO.out.2.1, C', HO.out.1, HO.out.2.2.1, HO.out.2.2.2.1, HO.out.2.2.2.2.1, HO.out.2.2.2.2.2.1, HO.out.2.2.2.2.2.2, fun k hk => .inl (hE k (by omega))⟩
        · have HO := Hid.mk (And.intro hj (And.intro (ho.wide hCE) (And.intro (ho.within hwi) (ho.wider hCE))))
          clear hj ho
          gi_wp2
          exact ⟨_, HO.out.2.1, rfl, C', HO.out.1, HO.out.2.2.1, HO.out.2.2.2⟩
    case s =>
      rintro k ls a V' (⟨b0, b1, b2, b3, b4, b5, m, hk, rfl, hb, rfl, rfl⟩ | ⟨B, hk, rfl, hp, rfl⟩ | ⟨B, hk, _⟩)
      · refine ⟨(tidy_use (by kernel_rfl) b0 b1 b2 b3 b4 b5 hb).1, fun i hi => ?_⟩
        have hc := (tidy_use (by kernel_rfl) b0 b1 b2 b3 b4 b5 hb).2 i hi
        clear hi
        simp only [comesUp, Bool.or_eq_true, Bool.and_eq_true, beq_iff_eq, Bool.not_eq_true'] at hc
        unfold frA
        rcases hc with (((((⟨rfl, rfl⟩ | ⟨rfl, rfl⟩) | ⟨rfl, rfl⟩) | ⟨rfl, rfl⟩) | ⟨rfl, rfl⟩) | ⟨rfl, rfl, rfl, rfl, rfl⟩) | ⟨rfl, rfl, rfl, rfl⟩
        · refine wpOpIn_step rfl (fun K hK => ?_)
          go_simp
          exact hK _ _ (.inl ⟨true, b1, b2, b3, b4, b5, m, by simp [left6] at hk ⊢; omega, rfl, hb, rfl, rfl⟩)
        · refine wpOpIn_step rfl (fun K hK => ?_)
          go_simp
          exact hK _ _ (.inl ⟨b0, true, b2, b3, b4, b5, m, by simp [left6] at hk ⊢; omega, rfl, hb, rfl, rfl⟩)
        · refine wpOpIn_step rfl (fun K hK => ?_)
          go_simp
          exact hK _ _ (.inl ⟨b0, b1, true, b3, b4, b5, m, by simp [left6] at hk ⊢; omega, rfl, (fun h => ⟨rfl, (hb h).2⟩), rfl, rfl⟩)
        · refine wpOpIn_step rfl (fun K hK => ?_)
          go_simp
          exact hK _ _ (.inl ⟨b0, b1, b2, true, b4, b5, m, by simp [left6] at hk ⊢; omega, rfl, (fun h => ⟨(hb h).1, rfl, (hb h).2.2⟩), rfl, rfl⟩)
        · refine wpOpIn_step rfl (fun K hK => ?_)
          go_simp
          exact hK _ _ (.inl ⟨b0, b1, b2, b3, true, b5, m, by simp [left6] at hk ⊢; omega, rfl, (fun h => ⟨(hb h).1, (hb h).2.1, rfl⟩), rfl, rfl⟩)
        · simp only [sl_true]
          refine wpOpIn_step rfl (fun K hK => ?_)
          go_simp
          gi_wp2_with (refine ⟨trivial, ?_⟩; gi_at_call 59; refine (CallsIn.inRound l2 (callsIn_wide.2 (hnum m))).mono ?_; rintro e w' ⟨rfl, mm, hw'⟩; subst w')
          exact .inl ⟨b0, b1, true, true, true, true, m + mm, by simp [left6] at hk ⊢; omega, rfl, (fun _ => ⟨rfl, rfl, rfl⟩), rfl, rfl⟩
        · obtain ⟨rfl, rfl, rfl⟩ := hb rfl
          obtain rfl : k = 1 := by simp [left6] at hk; omega
          simp only [sl_true]
          obtain ⟨fn, tmps, assign, body, hy, hRd⟩ := hY (trA f N pre) (x1, Z) (V.drewN m) C (by rw [← HV.out.1]; exact hSpA.out) (HV.out.2.2.2 m) hwi (show W.heap.size ≤ V.heap.size by omega) (by rw [trA_len]; exact hlen)
          dsimp only [encP] at hy
          rw [← HV.out.1] at hRd
          have hRd' := RoundIn.within (m' := n - 1 - 1 - 1) (l2 := l2) hRd
          clear hRd
          refine wpOpIn_step rfl (fun K hK => ?_)
          go_simp
          refine hRd'.mono ?_
          rintro e W3 ⟨C', (⟨rfl, hJ3, ho3⟩ | ⟨rfl, hJ3, ho3⟩)⟩
          · exact hK _ _ (.inr (.inl ⟨true, by simp, rfl, .inl ⟨rfl, C', hJ3, ho3.drawn⟩, rfl⟩))
          · exact hK _ _ (.inr (.inl ⟨false, by simp, rfl, .inr ⟨rfl, C', hJ3, ho3.drawn⟩, rfl⟩))
      · obtain rfl : k = 0 := by omega
        refine ⟨(fun h => by have := (h.symm.trans (by kernel_rfl : _ = [7])); cases this), fun i hi => ?_⟩
        obtain rfl := only_one 7 (by kernel_rfl) hi
        unfold frA
        refine wpOpIn_step rfl (fun K hK => ?_)
        go_simp
        exact hK _ _ (.inr (.inr ⟨B, rfl, rfl, hp, rfl⟩))
      · omega
  case done =>
    rintro D ys E V hD hED rfl ⟨C, hJs, b2, hM, nC, hwi, hCE, hE⟩ _ _ hKD
    rw [trA_all HC.out.climbs N (Nat.le_refl _)] at hJs
    gi_wp2
    exact leaves_set (C := C) (B := W.heap.size) (.cons (by omega) hKD (fun _ h => by cases h) .nil) (one_mark fun h => hED (hCE _ h)) fun w' hw' _ => ⟨_, results_none rfl _ _ _, ⟨_, rfl⟩, .inl ⟨_, C, rfl, hJ _ _ _ _ hJs hw', hwi.stay hw'⟩⟩
  case stop =>
    rintro D cc pre E V hD hED ⟨c, hc, rfl⟩ ⟨rfl, C, hjx, hwi, hCE⟩ _ _ hKD
    rw [trA_all HC.out.climbs c hc] at hjx
    gi_wp2
    exact leaves_set (C := C) (B := W.heap.size) (.cons (by omega) hKD (fun _ h => by cases h) .nil) (one_mark fun h => hED (hCE _ h)) fun w' hw' _ => ⟨_, results_none rfl _ _ _, ⟨_, rfl⟩, .inr ⟨_, C, ⟨c, hc, rfl⟩, hJx _ _ _ _ hjx hw', hwi.stay hw'⟩⟩

end Go.Proofs.YtbjgbigalfhnjaaGreatDoor
