/-
  window's Grams: the n-grams with their places, each in memory of its own, as a going over that gives them away.
-/
import Derived.Test.YtiiflegfbieblaaWinB
import Derived.BigQuiet
import Derived.OrdersIn
import Derived.Laws.EntriesVeiled
namespace Go.Proofs.Ytiiflegfbieblaa
open Go.RowKit Go.Shelf
attribute [local go_sem] Oper.semAt_some

theorem Grown.within {C : Nat → Prop} {a b : World} (h : Within C a) (k : More a b) : Within (Grown C a b) b := fun j hj => hj.elim (fun hc => Nat.lt_of_lt_of_le (h j hc) k.size) fun h => h.2
/-- A round that lays blocks, gives them to the caller, and then lets it turn. -/
theorem Turn.given {lo : Nat} {C C' E : Nat → Prop} {V V' W : World} (hm : More V V') (ht : Turn lo (Grown C V V') C' V' W) (hs : ∀ k, C k → E k) :
    Turn lo E (Grown E V W) V W ∧ ∀ k, C' k → Grown E V W k := by
  have h1 := hm.size
  have h2 := ht.size
  refine ⟨⟨ht.os.trans hm.os, ht.tape.trans hm.tape, ht.output.trans hm.output, by omega, fun k hk hd => ?_, fun _ => Iff.rfl⟩, fun k hk => ?_⟩
  · rw [ht.block k (by omega) (hd.imp id fun hn hg => hg.elim (fun hc => hn (hs k hc)) fun h => by omega)]
    exact hm.block k hk
  · rcases (ht.more k).1 hk with (h | h) | h
    · exact .inl (hs k h)
    · exact .inr (by omega)
    · exact .inr (by omega)

/-- A region that draws its order, by a word that holds at every point of every order. -/
theorem any_inv {F : Fence} {n : Nat} {P : Program} {md : Region.Mode} {ops : Array Oper} {Q : Exit → Act → World → Prop} (I : Nat → Array Bool → Act → World → Prop)
    (hz : ∀ l a w, I 0 l a w → Region.ready md ops l = [] ∧ Q .normal a w)
    (hs : ∀ k l a w, I (k + 1) l a w → Region.ready md ops l ≠ [] ∧ ∀ i ∈ Region.ready md ops l, wpOpIn F n P ops Q i (I k (l.setIfInBounds i true)) a w) :
    ∀ k l a w, I k l a w → wpAnyIn F n P md ops Q k l a w := by
  intro k
  induction k with
  | zero => intro l a w h; exact hz l a w h
  | succ k ih =>
    intro l a w h
    obtain ⟨h1, h2⟩ := hs k l a w h
    exact ⟨fun h0 => absurd h0 h1, fun i hi => wpOpIn_mono (fun a' w' h' => ih _ a' w' h') (h2 i hi)⟩
/-- A slot that is filled, or not yet. -/
def sl (b : Bool) (v : Value) : Value := bif b then v else undef
theorem sl_true (v : Value) : sl true v = v := rfl
/-- Which operations of a round of Grams may come up. -/
def comesG (b0 b1 b2 b3 : Bool) (i : Nat) : Bool :=
  (i == 0 && !b0) || (i == 1 && !b1) || (i == 2 && !b2) || (i == 3 && (!b3 && b2)) || (i == 4 && (b0 && (b1 && b3)))
def tidyG (ops : Array Oper) : Bool := decide (∀ b0 b1 b2 b3 : Bool, (b3 = true → b2 = true) → Region.ready .any ops #[b0, b1, b2, b3, false, false] ≠ [] ∧ ∀ i ∈ Region.ready .any ops #[b0, b1, b2, b3, false, false], comesG b0 b1 b2 b3 i = true)
theorem tidyG_use {ops : Array Oper} (h : tidyG ops = true) (b0 b1 b2 b3 : Bool) (hb : b3 = true → b2 = true) :
    Region.ready .any ops #[b0, b1, b2, b3, false, false] ≠ [] ∧ ∀ i ∈ Region.ready .any ops #[b0, b1, b2, b3, false, false], comesG b0 b1 b2 b3 i = true :=
  of_decide_eq_true h b0 b1 b2 b3 hb
theorem only_one {ops : Array Oper} {ls : Array Bool} {i : Nat} (j : Nat) (h : Region.ready .any ops ls = [j]) (hi : i ∈ Region.ready .any ops ls) : i = j := by rw [h] at hi; simpa using hi
def left4 (b0 b1 b2 b3 : Bool) : Nat := (!b0).toNat + (!b1).toNat + (!b2).toNat + (!b3).toNat

/-- The function that Grams tells, with the box that it reads. -/
abbrev grV (B : Nat) : Value := .func (.func 41) #[] #[.pointer (some ⟨B, 0, none⟩)]
/-- What Grams has laid, in blocks from lo on. -/
def GrAt (w : World) (lo B : Nat) (p : List Int) (m : Int) : Prop :=
  ∃ Bp Bn ao cap, Boxed w B 40 (.func (.func 63) #[] #[.pointer (some ⟨Bn, 0, none⟩), .pointer (some ⟨Bp, 0, none⟩)]) ∧ VwK Bn Bp ao p.length cap m w ∧ NL w lo (.slice ao p.length cap) p ∧ lo ≤ B ∧ lo ≤ Bp ∧ lo ≤ Bn
theorem GrAt.more {w w' : World} {lo B : Nat} {p : List Int} {m : Int} (h : GrAt w lo B p m) (k : More w w') : GrAt w' lo B p m := by
  obtain ⟨Bp, Bn, ao, cap, h1, ⟨h2, h3⟩, h4, h5⟩ := h
  exact ⟨Bp, Bn, ao, cap, boxed_more h1 k, ⟨boxed_more h2 k, boxed_more h3 k⟩, h4.more k, h5⟩
theorem GrAt.base {w : World} {lo lo' B : Nat} {p : List Int} {m : Int} (h : GrAt w lo B p m) (k : lo' ≤ lo) : GrAt w lo' B p m := by
  obtain ⟨Bp, Bn, ao, cap, h1, h2, h4, h5, h6, h7⟩ := h
  exact ⟨Bp, Bn, ao, cap, h1, h2, h4.base k, by omega, by omega, by omega⟩
theorem GrAt.setCell {w : World} {lo B : Nat} {p : List Int} {m : Int} (h : GrAt w lo B p m) (g r : Nat) (hg : g < lo) (x : Value) : GrAt (w.setCell ⟨g, r, none⟩ x) lo B p m := by
  obtain ⟨Bp, Bn, ao, cap, h1, ⟨h2, h3⟩, h4, h5, h6, h7⟩ := h
  have k : Stay (fun j => lo ≤ j) w (w.setCell ⟨g, r, none⟩ x) := (Stay.refl _ _).setCell (p := ⟨g, r, none⟩) (by show ¬ lo ≤ g; omega) x
  exact ⟨Bp, Bn, ao, cap, k.boxed h1 h5, ⟨k.boxed h2 h6, k.boxed h3 h7⟩, h4.stay (fun j hj => (World.ownsRow.lt h4 j hj).1) k, h5, h6, h7⟩

theorem two_boxes {w w2 : World} {u v : Value} {t s : TypeId} (h : w2 = (w.alloc (.cells #[u] t)).alloc (.cells #[v] s)) : More w w2 ∧ Boxed w2 w.heap.size t u ∧ Boxed w2 (w.heap.size + 1) s v := by
  subst h
  refine ⟨More.trans (more_alloc _ _) (more_alloc _ _), (Boxed.new _ _ _).alloc _, ?_⟩
  have := Boxed.new (w.alloc (.cells #[u] t)) s v
  rw [World.size_alloc] at this
  exact this
theorem one_box {w w2 : World} {u : Value} {t : TypeId} (h : w.alloc (.cells #[u] t) = w2) : Boxed w2 w.heap.size t u ∧ More w w2 := by
  subst h
  exact ⟨Boxed.new _ _ _, more_alloc _ _⟩

set_option maxRecDepth 1000000 in
set_option maxHeartbeats 1600000 in
theorem w_grams (n : Nat) (hn : 4 ≤ n) (v : Value) (p : List Int) (m : Int) (w : World) (h : IL w v p) (hl : p.length ≤ 1000000) :
    CallsIn Fence.wide n Try.prog 17 #[v, .int .i64 m] w fun e w' => ∃ B, e = .returned (grV B) ∧ GrAt w' w.heap.size B p m ∧ More w w' := by
  have hcl := cl_ints v p w h hl
  have h1 : 1 ≤ n := by omega
  obtain ⟨ao, cap, rfl⟩ := h.shape
  clear h
  refine callsIn_of_wp Try.func17 rfl trivial ?_ rfl
  simp only [Try.ntmps17, List.size_toArray, List.length_cons, List.length_nil, Nat.reduceAdd, Nat.reduceSub, Array.replicate_succ, Array.replicate_zero, List.push_toArray, List.append_toArray, List.nil_append, List.cons_append]
  gi_wp2_with (first
    | (refine ⟨trivial, ?_⟩; gi_at_call 40; refine (callsIn_wide.2 hcl).mono ?_; rintro e w1 ⟨v1, rfl, hN, hM⟩; obtain ⟨a1, c1, rfl⟩ := hN.shape; have H1 := Hid.mk (And.intro hN hM); clear hN hM)
    | (refine ⟨trivial, ?_⟩; gi_at_call 39; refine (views_call _ _ _ _ _ _).mono ?_; rintro e w2 ⟨rfl, hw2⟩; obtain ⟨hm2, b1, b2⟩ := two_boxes hw2; clear hw2; obtain ⟨w3, hw3⟩ : ∃ w3, w2.alloc (.cells #[.nilFunc] 40) = w3 := ⟨_, rfl⟩
       obtain ⟨b4, hm3⟩ := one_box hw3; have c4 := b4.cell; have f4 := b4.frozen; have H2 := Hid.mk (And.intro hm2 (And.intro b1 (And.intro b2 (And.intro b4 hm3)))); clear hm2 b1 b2 b4 hm3))
  have b3 := H2.out.2.2.2.1.set (.func (.func 63) #[] #[.pointer (some ⟨w1.heap.size + 1, 0, none⟩), .pointer (some ⟨w1.heap.size, 0, none⟩)])
  have hm3 := H2.out.2.2.2.2.setCell (p := ⟨w2.heap.size, 0, none⟩) (Nat.le_refl _) (.func (.func 63) #[] #[.pointer (some ⟨w1.heap.size + 1, 0, none⟩), .pointer (some ⟨w1.heap.size, 0, none⟩)])
  have HO := Hid.mk (And.intro (show GrAt _ w.heap.size w2.heap.size p m from ⟨w1.heap.size, w1.heap.size + 1, a1, c1, b3, ⟨boxed_more H2.out.2.1 hm3, boxed_more H2.out.2.2.1 hm3⟩, H1.out.1.more (More.trans H2.out.1 hm3), Nat.le_trans H1.out.2.size H2.out.1.size, H1.out.2.size, Nat.le_succ_of_le H1.out.2.size⟩) (More.trans H1.out.2 (More.trans H2.out.1 hm3)))
  clear b3 hm3
  go_ret
  exact ⟨_, rfl, HO.out.1, HO.out.2⟩

/-- Places, from nought on. -/
def pls (c : Nat) : List Int := (List.range c).map fun j : Nat => (j : Int)
theorem pls_len (c : Nat) : (pls c).length = c := by simp [pls]
theorem pls_succ (c : Nat) : pls (c + 1) = pls c ++ [(c : Int)] := by simp [pls, List.range_succ]
abbrev encG (x : Int × Value) : Array Value := #[.int .i64 x.1, x.2]
/-- What is told of an n-gram that is given: a row of its own. -/
def GvG (G : List (List Int)) {α : Type} (val : α → Value) (base : Nat) (pre : List α) (x : α) (W : World) : Prop := NL W base (val x) (G.getD pre.length [])
theorem GvG.stay {G : List (List Int)} {α : Type} {val : α → Value} (base : Nat) (pre : List α) (x : α) (A A' : World) (h : GvG G val base pre x A) (k : Stay (fun j => (val x).ownBlock = some j) A A') : GvG G val base pre x A' := NL.stay h (fun _ hk => hk) k

/-- Grams' frame within a round. -/
def frG (l B Bw Bn Bp : Nat) (c : Nat) (vv v0 v1 v2 v3 v4 v5 : Value) : Act :=
  { tmps := #[.func (.yield l) #[] #[], .pointer (some ⟨B, 0, none⟩), .pointer (some ⟨Bw, 0, none⟩), .int .i64 c, vv, .func (.func 63) #[] #[.pointer (some ⟨Bn, 0, none⟩), .pointer (some ⟨Bp, 0, none⟩)], .int .i64 c, vv, v0, v1, v2, v3, v4, v5], defers := [] }

set_option maxRecDepth 1000000 in
set_option maxHeartbeats 4000000 in
theorem grams_in (n : Nat) (hn : 8 ≤ n) (B : Nat) (p : List Int) (m : Int) (hm : m ≤ 9223372036854775807) (hl : p.length ≤ 1000000) (wG : World) (lo : Nat) (hG : GrAt wG lo B p m) :
    SeqGive Fence.wide n Try.prog 41 #[.pointer (some ⟨B, 0, none⟩)] encG wG.heap.size (fun A => More wG A) (fun xs => xs.map Prod.fst = pls (cn p.length m)) (fun pre => ∃ c, c ≤ cn p.length m ∧ pre.map Prod.fst = pls c) (cn p.length m) (GvG (grs p m) Prod.snd) (fun x j => x.2.ownBlock = some j) wG := by
  intro l J Jx W C0 hW hC0 hlo hJ hJx hKp hJm hY h0
  have h1 : 1 ≤ n := by omega
  obtain ⟨Bp, Bn, ao, cap, bB, hVw, hNL, _⟩ := hG
  have hIL := hNL.il
  have hcap := hNL.cap.le
  clear hNL
  obtain ⟨w0, hw0⟩ : ∃ w0, W.alloc (.cells #[.func (.yield l) #[] #[]] 69) = w0 := ⟨_, rfl⟩
  have hm0 : More W w0 := by rw [← hw0]; exact more_alloc _ _
  have b2 : Boxed w0 W.heap.size 69 (.func (.yield l) #[] #[]) := by rw [← hw0]; exact Boxed.new _ _ _
  have hs0 : w0.heap.size = W.heap.size + 1 := by rw [← hw0]; simp
  have hA0 := More.trans hW hm0
  have cB := (boxed_more bB hA0).cell
  have hseq := views_in (n - 1) (by omega) Bn Bp wG.heap.size ao p.length cap m hm hl hcap (fun h => by obtain ⟨b, o, c, e, _⟩ := hIL.form h; exact ⟨b, o, (Value.slice.inj e).1⟩) w0
  have HK := Hid.mk (fun (i : Nat) (h : i < cn p.length m) => And.intro (cn_fit h) (grs_get h))
  have HG := Hid.mk (And.intro hVw (And.intro hIL hcap))
  obtain ⟨K, hKe⟩ : ∃ K, cn p.length m = K := ⟨_, rfl⟩
  rw [hKe] at hseq HK hY ⊢
  obtain ⟨M, hMe⟩ : ∃ M, m.toNat = M := ⟨_, rfl⟩
  rw [hMe] at hseq HK
  have HB := Hid.mk bB
  have HM0 := Hid.mk (And.intro hm0 hs0)
  clear hVw hIL hcap bB hKe hMe hm0
  refine callsIn_of_wp_marks Try.func41 rfl trivial ?_ rfl
  simp only [Try.ntmps41, List.size_toArray, List.length_cons, List.length_nil, Nat.reduceAdd, Nat.reduceSub, Array.replicate_succ, Array.replicate_zero, List.push_toArray, List.append_toArray, List.nil_append, List.cons_append]
  gi_wp2
  clear hw0 cB
  refine range_set rfl h1 (gf := 63) (lb := #[.pointer (some ⟨Bn, 0, none⟩), .pointer (some ⟨Bp, 0, none⟩)]) rfl trivial (enters_of Try.func63 (by kernel_rfl) rfl)
    hseq (by omega) (Below.refl _ _) (fun _ => rfl)
    (fun pre E V => ∃ (C : Nat → Prop) (opre : List (Int × Value)), opre.map Prod.fst = pls pre.length ∧ J opre C V ∧ Boxed V W.heap.size 69 (.func (.yield l) #[] #[]) ∧ ¬ C W.heap.size ∧ Within C V ∧ (∀ k, C k → E k) ∧ (∀ k, k < w0.heap.size → E k))
    (fun cc pre E V => cc = .ret ∧ ∃ (C : Nat → Prop) (opre : List (Int × Value)), opre.map Prod.fst = pls pre.length ∧ Jx opre C V ∧ Within C V ∧ (∀ k, C k → E k))
    (fun s E A A' ⟨C, op, h0, h1, h2, h4, h5, h6, h7⟩ k => ⟨C, op, h0, hJ _ _ _ _ h1 (k.sub h6), k.boxed h2 (h7 _ (by omega)), h4, h5.more k.size, h6, h7⟩)
    (fun cc s E A A' ⟨h0, C, op, h1, h2, h3, h4⟩ k => ⟨h0, C, op, h1, hJx _ _ _ _ h2 (k.sub h4), h3.more k.size, h4⟩)
    (fun s E A ⟨C, op, _, h1, _⟩ => ⟨boxed_more HG.out.1.1 (hKp _ _ _ h1), boxed_more HG.out.1.2 (hKp _ _ _ h1)⟩)
    ⟨C0, [], rfl, hJ _ _ _ _ h0 (Stay.of_more HM0.out.1 hC0), b2, (fun h => by have := hC0 _ h; omega), hC0.more HM0.out.1.size, (fun k hk => by have := hC0 _ hk; omega), (fun _ h => h)⟩
    (fun c => { tmps := #[.func (.yield l) #[] #[], .pointer (some ⟨B, 0, none⟩), .pointer (some ⟨W.heap.size, 0, none⟩), .int .i64 c, vwOf ao M cap c, .func (.func 63) #[] #[.pointer (some ⟨Bn, 0, none⟩), .pointer (some ⟨Bp, 0, none⟩)], .int .i64 c, vwOf ao M cap c, undef, undef, undef, undef, undef, undef], defers := [] }) ?assign ?body ?done ?stop
  case assign =>
    intro l2 x V K' hK'
    gi_wp2
    exact hK'
  case body =>
    rintro l2 pre c V E ⟨c', hc', hSp⟩ ⟨C, opre, hfst, hJs, b2, nC, hwi, hCE, hE⟩ hwE _ hsz hlen
    have hcl : c = pre.length := by
      have h5 := congrArg List.length hSp
      simp at h5
      subst h5
      rw [List.range_succ] at hSp
      have := (List.append_inj' hSp rfl).2
      simpa using this
    have hol : opre.length = c := by
      have h5 := congrArg List.length hfst
      rw [List.length_map, pls_len] at h5
      omega
    have HL : Hid ((pre ++ [c]).length = c + 1) := Hid.mk (by rw [List.length_append, List.length_singleton, hcl])
    rw [← hcl] at hfst hlen
    clear hSp hcl
    have hd : 1 ≤ n - 1 - 1 := by omega
    have hMV : More wG V := hKp _ _ _ hJs
    have hgr := HK.out c hlen
    have hclone : ∀ V', More V V' → Calls Try.prog 40 #[vwOf ao M cap c] V' fun e w' => ∃ v', e = .returned v' ∧ NL w' V'.heap.size v' ((grs p m).getD c []) ∧ More V' w' := fun V' hV' => by
      obtain ⟨b, o, cc, e, _⟩ := HG.out.2.1.form (by have := hgr.1.2.1; have := hgr.1.1; omega)
      obtain ⟨rfl, _, rfl⟩ := Value.slice.inj e
      rw [hgr.2]
      exact cl_ints _ _ _ ((HG.out.2.1.gram hgr.1.2.1 (by have := hgr.1; omega) _).more (More.trans hMV hV')) (by rw [gr_len hgr.1.2.1]; have := hgr.1.2.1; omega)
    have hsp1 : ∀ g : Value, ∃ c2, c2 ≤ K ∧ (opre ++ [((c : Int), g)]).map Prod.fst = pls c2 := fun g => ⟨c + 1, by omega, by rw [List.map_append, hfst, pls_succ]; rfl⟩
    have hY2 := fun (g : Value) (V' : World) (hV' : More V V') (hN : NL V' V.heap.size g ((grs p m).getD c [])) => hY opre ((c : Int), g) V' (Grown C V V') (hsp1 g) (hJm _ _ _ _ hJs hwi hV') (show NL V' W.heap.size g _ by rw [hol]; exact hN.base (by omega)) (fun j hj => ⟨.inr (World.ownsRow.lt hN j hj), by have := (World.ownsRow.lt hN j hj).1; omega⟩) (Grown.within hwi hV') (by have := hV'.size; omega) (by omega)
    have hfs : ∀ g : Value, (opre ++ [((c : Int), g)]).map Prod.fst = pls (c + 1) := fun g => by rw [List.map_append, hfst, pls_succ]; rfl
    have nC2 : ∀ V', More V V' → ¬ Grown C V V' W.heap.size := fun V' _ h => h.elim nC fun h => by have := b2.lt; omega
    have cY := b2.cell
    have HV := Hid.mk (And.intro hfs (And.intro hclone (And.intro hY2 (And.intro b2 (And.intro nC2 (And.intro hwi hCE))))))
    obtain ⟨vv, hvv⟩ : ∃ vv, vwOf ao M cap c = vv := ⟨_, rfl⟩
    rw [hvv] at HV ⊢
    clear hJs hfs hclone hY2 hsp1 hfst hgr hMV hvv hseq hA0 hY nC2 hwi nC hol
    gi_wp2
    refine wpIn_region_any (by kernel_rfl) ?_
    refine any_inv (fun k ls a V' =>
      (∃ (b0 b1 b2 b3 : Bool) (g : Value), k = 2 + left4 b0 b1 b2 b3 ∧ ls = #[b0, b1, b2, b3, false, false] ∧ (b3 = true → b2 = true) ∧ More V V' ∧ (b3 = true → NL V' V.heap.size g ((grs p m).getD c [])) ∧ a = frG l B W.heap.size Bn Bp c vv (sl b0 (.func (.yield l) #[] #[])) (sl b1 (.int .i64 c)) (sl b2 vv) (sl b3 g) undef undef) ∨
      (∃ (Bo : Bool) (g : Value) (V1 : World), k = 1 ∧ ls = #[true, true, true, true, true, false] ∧ More V V1 ∧ ((Bo = true ∧ ∃ C', J (opre ++ [((c : Int), g)]) C' V' ∧ Turn wG.heap.size (Grown C V V1) C' V1 V') ∨ (Bo = false ∧ ∃ C', Jx (opre ++ [((c : Int), g)]) C' V' ∧ Turn 0 (Grown C V V1) C' V1 V')) ∧ a = frG l B W.heap.size Bn Bp c vv (.func (.yield l) #[] #[]) (.int .i64 c) vv g (.bool Bo) undef) ∨
      (∃ (Bo : Bool) (g : Value) (V1 : World), k = 0 ∧ ls = #[true, true, true, true, true, true] ∧ More V V1 ∧ ((Bo = true ∧ ∃ C', J (opre ++ [((c : Int), g)]) C' V' ∧ Turn wG.heap.size (Grown C V V1) C' V1 V') ∨ (Bo = false ∧ ∃ C', Jx (opre ++ [((c : Int), g)]) C' V' ∧ Turn 0 (Grown C V V1) C' V1 V')) ∧ a = frG l B W.heap.size Bn Bp c vv (.func (.yield l) #[] #[]) (.int .i64 c) vv g (.bool Bo) (.bool !Bo))) ?z ?s _ _ _ _ ?st
    case st => exact .inl ⟨false, false, false, false, undef, rfl, rfl, (fun h => by cases h), More.drewN _ _, (fun h => by cases h), rfl⟩
    case z =>
      rintro ls a V' (⟨b0, b1, b2, b3, g, hk, _⟩ | ⟨Bo, g, V1, hk, _⟩ | ⟨Bo, g, V1, _, rfl, hV1, hp, rfl⟩)
      · omega
      · omega
      · refine ⟨by kernel_rfl, ?_⟩
        unfold frG
        rcases hp with ⟨rfl, C', hj, ho⟩ | ⟨rfl, C', hj, ho⟩
        · have hbx := ho.boxed (boxed_more HV.out.2.2.2.1 hV1) (HV.out.2.2.2.2.1 V1 hV1)
          have hgv := Turn.given hV1 ho HV.out.2.2.2.2.2.2
          have HO := Hid.mk (And.intro hj (And.intro hgv (And.intro hbx (And.intro (ho.off (HV.out.2.2.2.2.1 V1 hV1) (boxed_more HV.out.2.2.2.1 hV1).lt) (ho.within (Grown.within HV.out.2.2.2.2.2.1 hV1))))))
          clear hj ho hbx hgv
          gi_wp2
          exact ⟨_, HO.out.2.1.1, C', _, by rw [HL.out]; exact HV.out.1 g, HO.out.1, HO.out.2.2.1, HO.out.2.2.2.1, HO.out.2.2.2.2, HO.out.2.1.2, fun k hk => .inl (hE k (by omega))⟩
        · have hgv := Turn.given hV1 ho HV.out.2.2.2.2.2.2
          have HO := Hid.mk (And.intro hj (And.intro hgv (ho.within (Grown.within HV.out.2.2.2.2.2.1 hV1))))
          clear hj ho hgv
          gi_wp2
          exact ⟨_, HO.out.2.1.1, rfl, C', _, by rw [HL.out]; exact HV.out.1 g, HO.out.1, HO.out.2.2, HO.out.2.1.2⟩
    case s =>
      rintro k ls a V' (⟨b0, b1, b2, b3, g, hk, rfl, hb, hV', hN, rfl⟩ | ⟨Bo, g, V1, hk, rfl, hV1, hp, rfl⟩ | ⟨Bo, g, V1, hk, _⟩)
      · refine ⟨(tidyG_use (by kernel_rfl) b0 b1 b2 b3 hb).1, fun i hi => ?_⟩
        have hc := (tidyG_use (by kernel_rfl) b0 b1 b2 b3 hb).2 i hi
        clear hi
        simp only [comesG, Bool.or_eq_true, Bool.and_eq_true, beq_iff_eq, Bool.not_eq_true'] at hc
        unfold frG
        rcases hc with (((⟨rfl, rfl⟩ | ⟨rfl, rfl⟩) | ⟨rfl, rfl⟩) | ⟨rfl, rfl, rfl⟩) | ⟨rfl, rfl, rfl, rfl⟩
        · have cY' := (boxed_more HV.out.2.2.2.1 hV').cell
          refine wpOpIn_step rfl (fun K hK => ?_)
          go_simp
          exact hK _ _ (.inl ⟨true, b1, b2, b3, g, by simp [left4] at hk ⊢; omega, rfl, hb, hV', hN, rfl⟩)
        · refine wpOpIn_step rfl (fun K hK => ?_)
          go_simp
          exact hK _ _ (.inl ⟨b0, true, b2, b3, g, by simp [left4] at hk ⊢; omega, rfl, hb, hV', hN, rfl⟩)
        · refine wpOpIn_step rfl (fun K hK => ?_)
          go_simp
          exact hK _ _ (.inl ⟨b0, b1, true, b3, g, by simp [left4] at hk ⊢; omega, rfl, (fun _ => rfl), hV', hN, rfl⟩)
        · simp only [sl_true]
          refine wpOpIn_step rfl (fun K hK => ?_)
          go_simp
          gi_wp2_with (refine ⟨trivial, ?_⟩; gi_at_call 40; refine (CallsIn.inRound l2 (callsIn_wide.2 (HV.out.2.1 V' hV'))).mono ?_; rintro e w' ⟨g2, rfl, hN2, hM2⟩; have H2 := Hid.mk (And.intro (hN2.base hV'.size) (More.trans hV' hM2)); clear hN2 hM2)
          exact .inl ⟨b0, b1, true, true, g2, by simp [left4] at hk ⊢; omega, rfl, (fun _ => rfl), H2.out.2, (fun _ => H2.out.1), rfl⟩
        · obtain rfl := hb rfl
          obtain rfl : k = 1 := by simp [left4] at hk; omega
          simp only [sl_true]
          obtain ⟨fn, tmps, assign, body, hy, hRd⟩ := HV.out.2.2.1 g V' hV' (hN rfl)
          dsimp only [encG] at hy
          have hRd' := RoundIn.within (m' := n - 1 - 1 - 1) (l2 := l2) hRd
          clear hRd
          refine wpOpIn_step rfl (fun K hK => ?_)
          go_simp
          refine hRd'.mono ?_
          rintro e W3 ⟨C', (⟨rfl, hJ3, ho3⟩ | ⟨rfl, hJ3, ho3⟩)⟩
          · exact hK _ _ (.inr (.inl ⟨true, g, V', by simp, rfl, hV', .inl ⟨rfl, C', hJ3, ho3⟩, rfl⟩))
          · exact hK _ _ (.inr (.inl ⟨false, g, V', by simp, rfl, hV', .inr ⟨rfl, C', hJ3, ho3⟩, rfl⟩))
      · obtain rfl : k = 0 := by omega
        refine ⟨(fun h => by have := (h.symm.trans (by kernel_rfl : _ = [5])); cases this), fun i hi => ?_⟩
        obtain rfl := only_one 5 (by kernel_rfl) hi
        unfold frG
        refine wpOpIn_step rfl (fun K hK => ?_)
        go_simp
        exact hK _ _ (.inr (.inr ⟨Bo, g, V1, rfl, rfl, hV1, hp, rfl⟩))
      · omega
  case done =>
    rintro D ys E V hD hED rfl ⟨C, opre, hfst, hJs, b2, nC, hwi, hCE, hE⟩ _ _ hKD
    rw [List.length_range] at hfst
    gi_wp2
    exact leaves_set (C := C) (B := W.heap.size) (.cons (by omega) hKD (fun _ h => by cases h) .nil) (one_mark fun h => hED (hCE _ h)) fun w' hw' _ => ⟨_, results_none rfl _ _ _, ⟨_, rfl⟩, .inl ⟨opre, C, hfst, hJ _ _ _ _ hJs hw', hwi.stay hw'⟩⟩
  case stop =>
    rintro D cc pre E V hD hED ⟨c, hc, rfl⟩ ⟨rfl, C, opre, hfst, hjx, hwi, hCE⟩ _ _ hKD
    rw [List.length_range] at hfst
    gi_wp2
    exact leaves_set (C := C) (B := W.heap.size) (.cons (by omega) hKD (fun _ h => by cases h) .nil) (one_mark fun h => hED (hCE _ h)) fun w' hw' _ => ⟨_, results_none rfl _ _ _, ⟨_, rfl⟩, .inr ⟨opre, C, ⟨c, hc, hfst⟩, hJx _ _ _ _ hjx hw', hwi.stay hw'⟩⟩
end Go.Proofs.Ytiiflegfbieblaa
