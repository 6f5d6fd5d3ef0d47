/-
  The document's Each, Count, Same.
-/
import Derived.Test.YtiiflegfbieblaaWinG
namespace Go.Proofs.Ytiiflegfbieblaa
open Go.RowKit Go.Shelf
attribute [local go_sem] Oper.semAt_some

/-- An append to a row of the call's own, as one operation of a region; what is appended may be nil. -/
theorem opIn_append_from {F : Fence} {nF : Nat} {P : Program} {ops : Array Oper} {Q : Exit → Act → World → Prop} {k : Nat} {o : Oper} {a : Act} {w : World} {K : Act → World → Prop} (hop : ops[k]? = some o) (hgd : o.guard = none) (s x : Operand) (t : TypeId)
    (ho : o.op = .call { callee := .builtin .append, args := #[s, x], argTypes := #[t, t] })
    (base : Nat) (e : TypeId) (i : TypeInfo) (z : Value) (size bytes : Nat) (ht : P.underlying t = some (.slice e)) (hi : P.info? e = some i) (hz : i.zero = some z)
    (hsize : i.size = size) (hby : i.bytes = bytes) (hzs : z.cells.size = size) (hsz : 0 < size)
    (v : Value) (n : Nat) (xs : List Value) (hs : a.eval s = v) (hown : w.ownsRow base e size v n xs)
    (vs : Value) (m : Nat) (news : List Value) (hx : a.eval x = vs) (hl : news.length = m * size)
    (hsrc : (vs = .slice none 0 0 ∧ m = 0) ∨ ∃ ad c, vs = .slice (some ad) m c ∧ ∀ j u, news[j]? = some u → w.cell? (ad.add j) = some u) (h1 : ∀ u ∈ news, u.oneCell' = true)
    (h63 : n + m ≤ maxLen) (hbytes : (n + m) * bytes ≤ 140737488355328) (hbase : base ≤ w.heap.size)
    (h : ∀ v' w', w'.ownsRow base e size v' (n + m) (xs ++ news) → w.grownBy w' v.ownBlock → K (a.put o.dst v') w') :
    wpOpIn F nF P ops Q k K a w := by
  rcases hsrc with ⟨rfl, rfl⟩ | ⟨ad, c, rfl, hc⟩
  · obtain rfl : news = [] := List.eq_nil_of_length_eq_zero (by simpa using hl)
    refine wpOpIn_step hop (fun K' hK => ?_)
    rw [if_pos (by simp [Region.wanted, hgd])]
    have hr := run_append_owned_none (P := P) (w := w) base t o.type e i size ht hi v n xs hown
    unfold Oper.wpIn
    refine ⟨by simp [Oper.about, ho, resolve, Target.leads, Sem.run_pure], ?_⟩
    rw [Oper.semAt_plain F _ _ (by rw [ho]; intro c hc'; cases hc')]
    simp [execOp, ho, resolve, invoke, builtin, hs, hx, hr, Result.andThen]
    exact hK _ _ (h v w (by simpa using hown) ⟨rfl, rfl, rfl, Nat.le_refl _, fun _ _ _ => rfl⟩)
  · refine opIn_append_at hop hgd s x t ho base e i z size bytes ht hi hz hsize hby hzs hsz v n xs hs hown ad m c news hx hl hc h1 h63 hbytes hbase fun v' w' h2 h3 _ => h v' w' h2 h3

/-- A slot that is filled, or holds what it held. -/
def slo (b : Bool) (v u : Value) : Value := bif b then v else u
theorem slo_true (v u : Value) : slo true v u = v := rfl
/-- Which operations of a round of the document's Each may come up. -/
def comesE (b0 b1 b2 b3 b4 b5 b6 b7 b8 : Bool) (i : Nat) : Bool :=
  (i == 0 && !b0) || (i == 1 && !b1) || (i == 2 && (!b2 && (b0 && b1))) || (i == 3 && !b3) || (i == 4 && !b4) || (i == 5 && (!b5 && (b3 && b4))) || (i == 6 && (!b6 && b5)) || (i == 7 && !b7) || (i == 8 && (!b8 && (b6 && b7))) || (i == 9 && (b2 && b8))
def tidyE (ops : Array Oper) : Bool := decide (∀ b0 b1 b2 b3 b4 b5 b6 b7 b8 : Bool, (b2 = true → b0 = true ∧ b1 = true) → (b5 = true → b3 = true ∧ b4 = true) → (b6 = true → b5 = true) → (b8 = true → b6 = true ∧ b7 = true) → Region.ready .any ops #[b0, b1, b2, b3, b4, b5, b6, b7, b8, false, false] ≠ [] ∧ ∀ i ∈ Region.ready .any ops #[b0, b1, b2, b3, b4, b5, b6, b7, b8, false, false], comesE b0 b1 b2 b3 b4 b5 b6 b7 b8 i = true)
theorem tidyE_use {ops : Array Oper} (h : tidyE ops = true) (b0 b1 b2 b3 b4 b5 b6 b7 b8 : Bool) (h2 : b2 = true → b0 = true ∧ b1 = true) (h5 : b5 = true → b3 = true ∧ b4 = true) (h6 : b6 = true → b5 = true) (h8 : b8 = true → b6 = true ∧ b7 = true) :
    Region.ready .any ops #[b0, b1, b2, b3, b4, b5, b6, b7, b8, false, false] ≠ [] ∧ ∀ i ∈ Region.ready .any ops #[b0, b1, b2, b3, b4, b5, b6, b7, b8, false, false], comesE b0 b1 b2 b3 b4 b5 b6 b7 b8 i = true :=
  of_decide_eq_true h b0 b1 b2 b3 b4 b5 b6 b7 b8 h2 h5 h6 h8
def left9 (b0 b1 b2 b3 b4 b5 b6 b7 b8 : Bool) : Nat := (!b0).toNat + (!b1).toNat + (!b2).toNat + (!b3).toNat + (!b4).toNat + (!b5).toNat + (!b6).toNat + (!b7).toNat + (!b8).toNat

/-- What stands while the region of a round is on its way: the empty row, the copy, the n-grams of one list. -/
structure EgS (w0 wr V : World) (n : Nat) (vs : List Value) (H : List (List Int)) (b0 b2 b8 : Bool) (g : Nat) (v1 v2 : Value) : Prop where
  more : More wr V
  emp : b0 = true → b2 = false → V.heap[g]? = some (.cells #[] 30 (0, 0)) ∧ wr.heap.size ≤ g ∧ (b8 = true → v2.ownBlock ≠ some g)
  one : b2 = true → V.ownsRow wr.heap.size 30 1 v1 n vs
  two : b8 = true → ERow w0 V wr.heap.size v2 H
theorem EgS.start {w0 wr V : World} {n : Nat} {vs : List Value} {H : List (List Int)} {g : Nat} {v1 v2 : Value} (h : More wr V) : EgS w0 wr V n vs H false false false g v1 v2 := ⟨h, fun h => (by cases h), fun h => (by cases h), fun h => (by cases h)⟩
theorem EgS.laid {w0 wr V : World} {n : Nat} {vs : List Value} {H : List (List Int)} {b8 : Bool} {g : Nat} {v1 v2 : Value} (h : EgS w0 wr V n vs H false false b8 g v1 v2) : EgS w0 wr (V.alloc (.cells #[] 30)) n vs H true false b8 V.heap.size v1 v2 := by
  have hm := more_alloc V (.cells #[] 30)
  refine ⟨More.trans h.more hm, fun _ _ => ⟨heap_alloc_new _ _, h.more.size, fun h8 e => ?_⟩, fun h => (by cases h), fun h8 => (h.two h8).more hm⟩
  have := ((h.two h8).lt _ e).2
  omega
theorem EgS.copied {w0 wr V w' : World} {n : Nat} {vs : List Value} {H : List (List Int)} {b8 : Bool} {g : Nat} {v1 v2 v' : Value} (h : EgS w0 wr V n vs H true false b8 g v1 v2) (hown : w'.ownsRow wr.heap.size 30 1 v' n vs) (hgr : V.grownBy w' (some g)) : EgS w0 wr w' n vs H true true b8 g v' v2 := by
  obtain ⟨h1, h2, h3⟩ := h.emp rfl rfl
  refine ⟨Below.grown h.more hgr h.more.size (fun k hk => by have := Option.some.inj hk; omega), fun _ h => (by cases h), fun _ => hown, fun h8 => ?_⟩
  obtain ⟨us, h4, h5⟩ := h.two h8
  refine ⟨us, h4.kept hgr ?_, h5⟩
  cases hv : v2.ownBlock with
  | none => exact .inl rfl
  | some j => exact .inr fun e => h3 h8 (by rw [hv]; exact e)
theorem EgS.called {w0 wr V w' : World} {n : Nat} {vs : List Value} {H : List (List Int)} {b0 b2 : Bool} {g : Nat} {v1 v2 v' : Value} (h : EgS w0 wr V n vs H b0 b2 false g v1 v2) (hm : More V w') (hE : ERow w0 w' V.heap.size v' H) : EgS w0 wr w' n vs H b0 b2 true g v1 v' := by
  refine ⟨More.trans h.more hm, fun h0 h2 => ?_, fun h2 => hm.own (h.one h2), fun _ => hE.base h.more.size⟩
  obtain ⟨h3, h4, _⟩ := h.emp h0 h2
  refine ⟨hm.at h3, h4, fun _ e => ?_⟩
  have := (hE.lt _ e).1
  have := lt_of_block h3
  omega
theorem lists_one {w0 : World} {vs : List Value} {G : List (List Int)} (hl : vs.length = G.length) (h : ∀ j, j < G.length → IL w0 (vs.getD j undef) (G.getD j [])) : ∀ u ∈ vs, u.oneCell' = true := by
  intro u hu
  obtain ⟨j, hj, rfl⟩ := List.getElem_of_mem hu
  obtain ⟨ao, cap, e⟩ := (h j (by omega)).shape
  rw [List.getD_eq_getElem?_getD, List.getElem?_eq_getElem hj] at e
  rw [show vs[j] = _ from e]
  rfl

/-- The frame of a round of the document's Each. -/
def frE (v : Value) (m : Int) (x : Value) (r k : Nat) (u11 u12 x13 x14 x15 x16 x17 x18 x19 x20 x21 x22 u23 : Value) : Act :=
  { tmps := #[v, .int .i64 m, undef, undef, .slice none 0 0, x, .int .i64 r, .int .i64 r, v, .int .i64 k, .bool true, u11, u12, x13, x14, x15, x16, x17, x18, x19, x20, x21, x22, u23], defers := [] }

set_option maxRecDepth 1000000 in
set_option maxHeartbeats 4000000 in
theorem rf_each (v : Value) (L : List (List Int)) (m : Int) (w : World) (h : LL w v L) (hl : L.length ≤ 12) (hx : ∀ x ∈ L, x.length ≤ 30) (hm : m ≤ 9223372036854775807) :
    Calls Try.prog 18 #[v, .int .i64 m] w fun e w' => ∃ r, e = .returned r ∧ ERow w w' w.heap.size r (eac L m) ∧ More w w' := by
  refine (callsIn_wide (n := 20)).1 ?_
  obtain ⟨i0, hi, hz0, hz1, hz2⟩ := info_parts Try.infoInts
  have HA := Hid.mk h
  obtain ⟨bo, cb, rfl⟩ := h.shape
  obtain ⟨k, hk⟩ : ∃ k, L.length = k := ⟨_, rfl⟩
  have HX := Hid.mk (And.intro hk (And.intro hx (And.intro (eac_take_len L m hx hl) (fun r (hr : r < L.length) => eac_next (l := L) (n := m) hr))))
  rw [hk] at HA hl ⊢
  clear h hx hk
  refine callsIn_of_wp Try.func18 rfl trivial ?_ rfl
  simp only [Try.ntmps18, List.size_toArray, List.length_cons, List.length_nil, Nat.reduceAdd, Nat.reduceSub, Array.replicate_succ, Array.replicate_zero, List.push_toArray, List.append_toArray, List.nil_append, List.cons_append]
  gi_wp2
  gi_loopw [5, 6] (fun x i wr => ∃ r : Nat, r ≤ k ∧ i = .int .i64 r ∧ ERow w wr w.heap.size x (eac (L.take r) m) ∧ More w wr) (fun _ i _ => k - (intOf i).toNat)
  case atStart => exact ⟨0, by omega, rfl, by simpa [eac] using ERow.nil w w w.heap.size, More.refl w⟩
  case round =>
    obtain ⟨r, hr, rfl, hE, hR⟩ := hrel
    by_cases hlt : r < k
    · obtain ⟨gb, ob, pu, rfl, hgb, cp, hP, hPc⟩ := HA.out.at (j := r) (by rw [HX.out.1]; exact hlt)
      have hPl : (L.getD r []).length ≤ 30 := HX.out.2.1 _ (getD_in (by rw [HX.out.1]; exact hlt))
      have hsz := HX.out.2.2.1 (r + 1)
      have hnx := HX.out.2.2.2 r (by rw [HX.out.1]; exact hlt)
      obtain ⟨G, hG⟩ : ∃ G, eac (L.take r) m = G := ⟨_, rfl⟩
      obtain ⟨P, hPe⟩ : ∃ P, L.getD r [] = P := ⟨_, rfl⟩
      rw [hPe] at hP hPl hnx
      rw [hG] at hE hnx
      rw [hnx, List.length_append] at hsz
      have hgc := fun W => rf_grams pu P m w W hP hPc (by omega) hm
      obtain ⟨xo, xc, rfl⟩ := hE.shape
      have HN := Hid.mk (And.intro hnx (And.intro hR (And.intro hsz hgb)))
      obtain ⟨vs, hvs, hvi⟩ := hE
      obtain ⟨n, hn⟩ : ∃ n, G.length = n := ⟨_, rfl⟩
      rw [hn] at hvs hvi hsz ⊢
      have hvl : vs.length = n := by have := hvs.1; omega
      have HV := Hid.mk (And.intro hvs (And.intro hvi (And.intro hn (And.intro hvl cp))))
      obtain ⟨xv, hxv⟩ : ∃ xv, Value.slice xo n xc = xv := ⟨_, rfl⟩
      rw [hxv] at HV ⊢
      clear hnx hR hG hPe hP hPc hvs hvi hn hvl cp hxv
      gi_wp2
      refine wpIn_region_any (by kernel_rfl) ?_
      refine any_inv (fun kk ls a V =>
        (∃ (b0 b1 b2 b3 b4 b5 b6 b7 b8 : Bool) (g : Nat) (v1 v2 : Value), kk = 2 + left9 b0 b1 b2 b3 b4 b5 b6 b7 b8 ∧ ls = #[b0, b1, b2, b3, b4, b5, b6, b7, b8, false, false] ∧ (b2 = true → b0 = true ∧ b1 = true) ∧ (b5 = true → b3 = true ∧ b4 = true) ∧ (b6 = true → b5 = true) ∧ (b8 = true → b6 = true ∧ b7 = true) ∧ EgS w wr V n vs (grs P m) b0 b2 b8 g v1 v2 ∧
          a = frE (.slice (some ⟨gb, ob, none⟩) k cb) m xv r k u11 u12 (slo b0 (.slice (some ⟨g, 0, none⟩) 0 0) u13) (slo b1 xv u14) (slo b2 v1 u15) (slo b3 (.slice (some ⟨gb, ob, none⟩) k cb) u16) (slo b4 (.int .i64 r) u17) (slo b5 (.pointer (some ⟨gb, ob + r, none⟩)) u18) (slo b6 pu u19) (slo b7 (.int .i64 m) u20) (slo b8 v2 u21) u22 undef) ∨
        (∃ (v1 v2 v3 : Value) (g : Nat), kk = 1 ∧ ls = #[true, true, true, true, true, true, true, true, true, true, false] ∧ ERow w V w.heap.size v3 (G ++ grs P m) ∧ More w V ∧
          a = frE (.slice (some ⟨gb, ob, none⟩) k cb) m xv r k u11 u12 (.slice (some ⟨g, 0, none⟩) 0 0) xv v1 (.slice (some ⟨gb, ob, none⟩) k cb) (.int .i64 r) (.pointer (some ⟨gb, ob + r, none⟩)) pu (.int .i64 m) v2 v3 undef) ∨
        (∃ (v1 v2 v3 : Value) (g : Nat), kk = 0 ∧ ls = #[true, true, true, true, true, true, true, true, true, true, true] ∧ ERow w V w.heap.size v3 (G ++ grs P m) ∧ More w V ∧
          a = frE (.slice (some ⟨gb, ob, none⟩) k cb) m v3 r k u11 u12 (.slice (some ⟨g, 0, none⟩) 0 0) xv v1 (.slice (some ⟨gb, ob, none⟩) k cb) (.int .i64 r) (.pointer (some ⟨gb, ob + r, none⟩)) pu (.int .i64 m) v2 v3 undef)) ?z ?s _ _ _ _ ?st
      case st => exact .inl ⟨false, false, false, false, false, false, false, false, false, 0, undef, undef, rfl, rfl, (fun h => by cases h), (fun h => by cases h), (fun h => by cases h), (fun h => by cases h), EgS.start (More.drewN wr 1), rfl⟩
      case z =>
        rintro ls a V (⟨b0, b1, b2, b3, b4, b5, b6, b7, b8, g, v1, v2, hkk, _⟩ | ⟨v1, v2, v3, g, hkk, _⟩ | ⟨v1, v2, v3, g, _, rfl, hE, hM, rfl⟩)
        · omega
        · omega
        · refine ⟨by kernel_rfl, ?_⟩
          unfold frE
          have HO := Hid.mk (And.intro (show ERow w V w.heap.size v3 (eac (L.take (r + 1)) m) by rw [HN.out.1]; exact hE) hM)
          clear hE hM
          gi_wp2
          go_roundw
          case rel => exact ⟨r + 1, by omega, by go_num, HO.out.1, HO.out.2⟩
          case measure => first | (simp [intOf]; done) | (simp [intOf]; omega)
      case s =>
        rintro kk ls a V (⟨b0, b1, b2, b3, b4, b5, b6, b7, b8, g, v1, v2, hkk, rfl, h2, h5, h6, h8, hS, rfl⟩ | ⟨v1, v2, v3, g, hkk, rfl, hE, hM, rfl⟩ | ⟨v1, v2, v3, g, hkk, _⟩)
        · refine ⟨(tidyE_use (by kernel_rfl) b0 b1 b2 b3 b4 b5 b6 b7 b8 h2 h5 h6 h8).1, fun i hi => ?_⟩
          have hc := (tidyE_use (by kernel_rfl) b0 b1 b2 b3 b4 b5 b6 b7 b8 h2 h5 h6 h8).2 i hi
          clear hi
          simp only [comesE, Bool.or_eq_true, Bool.and_eq_true, beq_iff_eq, Bool.not_eq_true'] at hc
          unfold frE
          rcases hc with ((((((((⟨rfl, rfl⟩ | ⟨rfl, rfl⟩) | ⟨rfl, rfl, rfl, rfl⟩) | ⟨rfl, rfl⟩) | ⟨rfl, rfl⟩) | ⟨rfl, rfl, rfl, rfl⟩) | ⟨rfl, rfl, rfl⟩) | ⟨rfl, rfl⟩) | ⟨rfl, rfl, rfl, rfl⟩) | ⟨rfl, rfl, rfl⟩
          · obtain rfl : b2 = false := by cases b2; rfl; exact absurd (h2 rfl).1 (by decide)
            refine wpOpIn_step rfl (fun K hK => ?_)
            go_simp
            exact hK _ _ (.inl ⟨true, b1, false, b3, b4, b5, b6, b7, b8, V.heap.size, v1, v2, by simp [left9] at hkk ⊢; omega, rfl, (fun h => by cases h), h5, h6, h8, hS.laid, rfl⟩)
          · refine wpOpIn_step rfl (fun K hK => ?_)
            go_simp
            exact hK _ _ (.inl ⟨b0, true, b2, b3, b4, b5, b6, b7, b8, g, v1, v2, by simp [left9] at hkk ⊢; omega, rfl, (fun h => ⟨(h2 h).1, rfl⟩), h5, h6, h8, hS, rfl⟩)
          · simp only [slo_true]
            obtain ⟨he1, he2, _⟩ := hS.emp rfl rfl
            refine opIn_append_from rfl rfl (.tmp 13) (.tmp 14) 34 rfl wr.heap.size 30 i0 (.slice none 0 0) 1 24 Try.underlying34 hi hz0 hz1 hz2 rfl (by decide) _ 0 [] rfl ⟨rfl, .inr ⟨g, 0, #[], rfl, he2, he1, Nat.le_refl _, by decide, rfl, rfl⟩⟩ xv n vs rfl (by rw [HV.out.2.2.2.1]; omega) (row_src (hS.more.own HV.out.1)) (lists_one (by rw [HV.out.2.2.1]; exact HV.out.2.2.2.1) (by rw [HV.out.2.2.1]; exact HV.out.2.1)) (by unfold maxLen; omega) (by omega) hS.more.size fun v' w' hown hgr => ?_
            rw [Nat.zero_add, List.nil_append] at hown
            exact .inl ⟨true, true, true, b3, b4, b5, b6, b7, b8, g, v', v2, by simp [left9] at hkk ⊢; omega, rfl, (fun _ => ⟨rfl, rfl⟩), h5, h6, h8, hS.copied hown hgr, rfl⟩
          · refine wpOpIn_step rfl (fun K hK => ?_)
            go_simp
            exact hK _ _ (.inl ⟨b0, b1, b2, true, b4, b5, b6, b7, b8, g, v1, v2, by simp [left9] at hkk ⊢; omega, rfl, h2, (fun h => ⟨rfl, (h5 h).2⟩), h6, h8, hS, rfl⟩)
          · refine wpOpIn_step rfl (fun K hK => ?_)
            go_simp
            exact hK _ _ (.inl ⟨b0, b1, b2, b3, true, b5, b6, b7, b8, g, v1, v2, by simp [left9] at hkk ⊢; omega, rfl, h2, (fun h => ⟨(h5 h).1, rfl⟩), h6, h8, hS, rfl⟩)
          · simp only [slo_true]
            refine wpOpIn_step rfl (fun K hK => ?_)
            go_simp
            exact hK _ _ (.inl ⟨b0, b1, b2, true, true, true, b6, b7, b8, g, v1, v2, by simp [left9] at hkk ⊢; omega, rfl, h2, (fun _ => ⟨rfl, rfl⟩), (fun _ => rfl), h8, hS, rfl⟩)
          · obtain ⟨rfl, rfl⟩ := h5 rfl
            simp only [slo_true]
            have c1 : V.cell? ⟨gb, ob + r, none⟩ = some pu := ((More.trans HN.out.2.1 hS.more).cell (p := ⟨gb, ob + r, none⟩) HN.out.2.2.2).trans HV.out.2.2.2.2
            refine wpOpIn_step rfl (fun K hK => ?_)
            go_simp
            exact hK _ _ (.inl ⟨b0, b1, b2, true, true, true, true, b7, b8, g, v1, v2, by simp [left9] at hkk ⊢; omega, rfl, h2, (fun _ => ⟨rfl, rfl⟩), (fun _ => rfl), (fun h => ⟨rfl, (h8 h).2⟩), hS, rfl⟩)
          · refine wpOpIn_step rfl (fun K hK => ?_)
            go_simp
            exact hK _ _ (.inl ⟨b0, b1, b2, b3, b4, b5, b6, true, b8, g, v1, v2, by simp [left9] at hkk ⊢; omega, rfl, h2, h5, h6, (fun h => ⟨(h8 h).1, rfl⟩), hS, rfl⟩)
          · obtain rfl := h6 rfl
            obtain ⟨rfl, rfl⟩ := h5 rfl
            simp only [slo_true]
            have h2' := Hid.mk h2
            clear h2
            refine wpOpIn_step rfl (fun K hK => ?_)
            go_simp
            gi_wp2_with (refine ⟨trivial, ?_⟩; gi_at_call 16; refine (callsIn_wide.2 (hgc V)).mono ?_; rintro e w' ⟨v', rfl, hE2, hM2⟩; have H2 := Hid.mk (hS.called hM2 hE2); clear hE2 hM2)
            exact .inl ⟨b0, b1, b2, true, true, true, true, true, true, g, v1, v', by simp [left9] at hkk ⊢; omega, rfl, h2'.out, (fun _ => ⟨rfl, rfl⟩), (fun _ => rfl), (fun _ => ⟨rfl, rfl⟩), H2.out, rfl⟩
          · obtain ⟨rfl, rfl⟩ := h2 rfl
            obtain ⟨rfl, rfl⟩ := h8 rfl
            obtain rfl := h6 rfl
            obtain ⟨rfl, rfl⟩ := h5 rfl
            obtain rfl : kk = 1 := by simp [left9] at hkk; omega
            simp only [slo_true]
            obtain ⟨us, hu1, hu2⟩ := hS.two rfl
            have hul : us.length = (grs P m).length := by have := hu1.1; omega
            refine opIn_append_from rfl rfl (.tmp 15) (.tmp 21) 34 rfl wr.heap.size 30 i0 (.slice none 0 0) 1 24 Try.underlying34 hi hz0 hz1 hz2 rfl (by decide) v1 n vs rfl (hS.one rfl) v2 (grs P m).length us rfl (by omega) (row_src hu1) (lists_one hul hu2) (by unfold maxLen; omega) (by omega) hS.more.size fun v' w' hown hgr => ?_
            exact .inr (.inl ⟨v1, v2, v', g, by simp, rfl, (ERow.join (by rw [HV.out.2.2.1]; exact hown) (by rw [HV.out.2.2.1]; exact HV.out.2.2.2.1) (by rw [HV.out.2.2.1]; exact HV.out.2.1) hu2).base HN.out.2.1.size, More.trans HN.out.2.1 (hS.more.grown hgr hS.more.size (fun k hk => (World.ownsRow.lt (hS.one rfl) k hk).1)), rfl⟩)
        · obtain rfl : kk = 0 := by omega
          refine ⟨(fun h => by have := (h.symm.trans (by kernel_rfl : _ = [10])); cases this), fun i hi => ?_⟩
          obtain rfl := only_one 10 (by kernel_rfl) hi
          unfold frE
          refine wpOpIn_step rfl (fun K hK => ?_)
          go_simp
          exact hK _ _ (.inr (.inr ⟨v1, v2, v3, g, rfl, rfl, hE, hM, rfl⟩))
        · omega
    · obtain rfl : r = k := by omega
      have HX2 := Hid.mk (show L.take r = L by rw [← HX.out.1, List.take_length])
      rw [HX2.out] at hE
      have HO := Hid.mk (And.intro hE hR)
      obtain ⟨xo, xc, rfl⟩ := hE.shape
      clear hE hR
      gi_wp2
      go_ret
      exact ⟨_, rfl, HO.out.1, HO.out.2⟩
end Go.Proofs.Ytiiflegfbieblaa
