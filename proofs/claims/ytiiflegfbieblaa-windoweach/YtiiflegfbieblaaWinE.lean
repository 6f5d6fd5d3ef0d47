/-
  window's Each, gone over.
-/
import Derived.Test.YtiiflegfbieblaaWinD
namespace Go.Proofs.Ytiiflegfbieblaa
open Go.RowKit Go.Shelf
attribute [local go_sem] Oper.semAt_some

abbrev encE (x : Value) : Array Value := #[x]
/-- What Each's going over has laid, between two rounds; none of it is the caller's. -/
structure EaSt (B l : Nat) (ds : List Deferred) (C : Nat → Prop) (w : World) : Prop where
  b2 : Boxed w B 71 (.func (.yield l) #[] #[])
  marks : Marks B w ds
  n2 : ¬ C B
  nm : ∀ d ∈ ds, ∀ D, d.target = .collected D → ¬ C D
  wi : Within C w
theorem EaSt.dl {B l : Nat} {ds : List Deferred} {C : Nat → Prop} {w : World} (h : EaSt B l ds C w) : ∀ d ∈ ds, ∀ D, d.target = .collected D → D < w.heap.size := h.marks.lt' (Nat.le_refl _)
theorem EaSt.under {B l : Nat} {ds : List Deferred} {C E : Nat → Prop} {w w' : World} (h : EaSt B l ds C w) (k : Stay E w w') (hB : E B) (hd : ∀ d ∈ ds, ∀ D, d.target = .collected D → E D) : EaSt B l ds C w' :=
  ⟨k.boxed h.b2 hB, h.marks.stay k hd, h.n2, h.nm, h.wi.more k.size⟩
theorem EaSt.turn {B l lo : Nat} {ds : List Deferred} {C C' : Nat → Prop} {w w' : World} (h : EaSt B l ds C w) (k : Turn lo C C' w w') : EaSt B l ds C' w' :=
  ⟨k.boxed h.b2 h.n2, h.marks.turn k h.nm, k.off h.n2 h.b2.lt, fun d hd D he => k.off (h.nm d hd D he) (h.dl d hd D he), k.within h.wi⟩
theorem EaSt.grown {B l : Nat} {ds : List Deferred} {C : Nat → Prop} {w w' : World} (h : EaSt B l ds C w) (k : More w w') : EaSt B l ds (Grown C w w') w' :=
  ⟨boxed_more h.b2 k, h.marks.kept (fun D _ _ he => (k.block D (Array.getElem?_eq_some_iff.1 he).1).trans he), fun hh => hh.elim h.n2 (fun hh => by have := h.b2.lt; omega), fun d hd D he hh => hh.elim (h.nm d hd D he) (fun hh => by have := h.dl d hd D he; omega), Grown.within h.wi k⟩

set_option maxRecDepth 1000000 in
set_option maxHeartbeats 4000000 in
theorem each_in (n : Nat) (hn : 16 ≤ n) (Be lo : Nat) (L : List (List Int)) (m : Int) (hm : m ≤ 9223372036854775807) (hl : L.length ≤ 12) (hx : ∀ x ∈ L, x.length ≤ 30) (wE : World) (hE : EaAt wE lo Be L m) :
    SeqGive Fence.wide n Try.prog 42 #[.pointer (some ⟨Be, 0, none⟩)] encE wE.heap.size (fun A => More wE A) (fun xs => xs.length = (eac L m).length) (fun pre => pre.length ≤ (eac L m).length) (eac L m).length (GvG (eac L m) id) (fun x j => x.ownBlock = some j) wE := by
  intro l J Jx W C0 hW hC0 hlo hJ hJx hKp hJm hY h0
  have h1 : 1 ≤ n := by omega
  obtain ⟨gl, bE, _, _, hcs⟩ := hE
  obtain ⟨w0, hw0⟩ : ∃ w0, W.alloc (.cells #[.func (.yield l) #[] #[]] 71) = w0 := ⟨_, rfl⟩
  have hm0 : More W w0 := by rw [← hw0]; exact more_alloc _ _
  have b2 : Boxed w0 W.heap.size 71 (.func (.yield l) #[] #[]) := by rw [← hw0]; exact Boxed.new _ _ _
  have hA0 := More.trans hW hm0
  have cB := (boxed_more bE hA0).cell
  obtain ⟨k, hk⟩ : ∃ k, L.length = k := ⟨_, rfl⟩
  obtain ⟨T, hT⟩ : ∃ T, (eac L m).length = T := ⟨_, rfl⟩
  have HL := Hid.mk (And.intro hk (And.intro hx (And.intro hT hcs)))
  have HS0 := Hid.mk (show ∃ (C : Nat → Prop) (opre : List Value), opre.length = (eac (L.take 0) m).length ∧ J opre C w0 ∧ EaSt W.heap.size l [] C w0 from ⟨C0, [], by simp [eac], hJ _ _ _ _ h0 (Stay.of_more hm0 hC0), b2, .nil, (fun h => by have := hC0 _ h; omega), (fun _ h => by cases h), hC0.more hm0.size⟩)
  have hz0 : W.heap.size < w0.heap.size := b2.lt
  rw [hk] at cB hl
  rw [hT] at hY ⊢
  clear bE hcs b2 hm0 hk hT h0 hA0
  refine callsIn_of_wp_marks Try.func42 rfl trivial ?_ rfl
  simp only [Try.ntmps42, List.size_toArray, List.length_cons, List.length_nil, Nat.reduceAdd, Nat.reduceSub, Array.replicate_succ, Array.replicate_zero, List.push_toArray, List.append_toArray, List.nil_append, List.cons_append]
  gi_wp2
  clear hw0 cB
  refine wpIn_loop (fun a' w' => ∃ u4 u6 u9 u10 u11 u12 u13 u14 u15 u16 u17 u18 u19 u20 ds, (∃ r : Nat, r ≤ k ∧ u9 = .int .i64 r ∧ W.heap.size < w'.heap.size ∧ Hid (∃ (C : Nat → Prop) (opre : List Value), opre.length = (eac (L.take r) m).length ∧ J opre C w' ∧ EaSt W.heap.size l ds C w')) ∧ a' = Act.mk #[.func (.yield l) #[] #[], .pointer (some ⟨Be, 0, none⟩), .pointer (some ⟨W.heap.size, 0, none⟩), undef, u4, undef, u6, .slice (some ⟨gl, 0, none⟩) k k, .int .i64 k, u9, u10, u11, u12, u13, u14, u15, u16, u17, u18, u19, u20] ds)
    (fun a' _ => k - (intOf (a'.tmps.getD 9 undef)).toNat) ?start ?round
  case start => exact ⟨_, _, _, _, _, _, _, _, _, _, _, _, _, _, _, ⟨0, Nat.zero_le _, rfl, hz0, HS0⟩, rfl⟩
  case round =>
    rintro _ wr ⟨u4, u6, u9, u10, u11, u12, u13, u14, u15, u16, u17, u18, u19, u20, ds, ⟨r, hr, rfl, hzr, HR⟩, rfl⟩
    clear HS0
    by_cases hrk : r < k
    · obtain ⟨C, opre, hol, hJr, st⟩ := HR.out
      have hMr : More wE wr := hKp _ _ _ hJr
      obtain ⟨B, cG, hG⟩ := HL.out.2.2.2 r (by rw [HL.out.1]; exact hrk)
      have cG2 : wr.cell? ⟨gl, r, none⟩ = some (grV B) := (hMr.cell (World.block_lt_of_cell? _ _ cG)).trans cG
      have hpl : (L.getD r []).length ≤ 1000000 := Nat.le_trans (HL.out.2.1 _ (getD_in (by rw [HL.out.1]; exact hrk))) (by decide)
      have hseq := grams_in (n - 1) (by omega) B (L.getD r []) m hm hpl wE lo hG
      have HN := Hid.mk (And.intro (show (eac (L.take (r + 1)) m).length = (eac (L.take r) m).length + cn (L.getD r []).length m by rw [eac_next (by rw [HL.out.1]; exact hrk), List.length_append, grs_len]) (fun q (hq : q < cn (L.getD r []).length m) => And.intro (eac_at (l := L) (by rw [HL.out.1]; exact hrk) hq) (And.intro (eac_in (l := L) (by rw [HL.out.1]; exact hrk) (Nat.succ_le_of_lt hq)) (grs_get hq))))
      rw [HL.out.2.2.1] at HN
      have hszr := hMr.size
      have HJ := Hid.mk (And.intro hol (And.intro hJr st))
      obtain ⟨P, hP⟩ : ∃ P, L.getD r [] = P := ⟨_, rfl⟩
      obtain ⟨off, hoff⟩ : ∃ off, (eac (L.take r) m).length = off := ⟨_, rfl⟩
      have HP := Hid.mk (show off ≤ T by rw [← hoff, ← HL.out.2.2.1]; exact eac_in (l := L) (k := 0) (by rw [HL.out.1]; exact hrk) (Nat.zero_le _))
      rw [hP, hoff] at HN
      rw [hP] at hseq
      rw [hoff] at HJ
      clear hol hJr st cG hG hpl hP hoff HR
      gi_wp2
      refine range_give rfl h1 (gf := 41) (lb := #[.pointer (some ⟨B, 0, none⟩)]) rfl trivial (enters_of Try.func41 (by kernel_rfl) rfl)
        hseq hszr hMr (fun _ => rfl) (fun base pre x A A' h k => GvG.stay base pre x A A' h k)
        (fun pre E V => ∃ (C : Nat → Prop) (opre : List Value), opre.length = off + pre.length ∧ J opre C V ∧ EaSt W.heap.size l ds C V ∧ (∀ k, C k → E k) ∧ (∀ k, k < wr.heap.size → E k) ∧ (∀ k, E k → C k ∨ k < wr.heap.size))
        (fun cc pre E V => cc = .ret ∧ ∃ (C : Nat → Prop) (opre : List Value), opre.length = off + pre.length ∧ Jx opre C V ∧ Marks W.heap.size V ds ∧ (∀ d ∈ ds, ∀ D, d.target = .collected D → ¬ C D) ∧ Within C V ∧ (∀ k, C k → E k) ∧ (∀ k, k < wr.heap.size → E k))
        (fun s E A A' ⟨C, op, h1, h2, h3, h4, h5, h6⟩ k => ⟨C, op, h1, hJ _ _ _ _ h2 (k.sub h4), h3.under k (h5 _ hzr) (fun d hd D he => h5 D (HJ.out.2.2.dl d hd D he)), h4, h5, h6⟩)
        (fun cc s E A A' ⟨h0, C, op, h1, h2, h3, h4, h5, h6, h7⟩ k => ⟨h0, C, op, h1, hJx _ _ _ _ h2 (k.sub h6), h3.stay k (fun d hd D he => h7 D (HJ.out.2.2.dl d hd D he)), h4, h5.more k.size, h6, h7⟩)
        (fun s E A ⟨C, op, _, h2, _⟩ => hKp _ _ _ h2)
        (fun s E A A' ⟨C, op, h1, h2, h3, h4, h5, h6⟩ hwi k => ⟨Grown C A A', op, h1, hJm _ _ _ _ h2 h3.wi k, h3.grown k, fun j hj => hj.imp (h4 j) id, fun j hj => .inl (h5 j hj), fun j hj => hj.elim (fun hh => (h6 j hh).imp .inl id) fun hh => .inl (.inr hh)⟩)
        ⟨C, opre, HJ.out.1, HJ.out.2.1, HJ.out.2.2, HJ.out.2.2.wi, fun _ h => h, fun _ h => .inr h⟩
        (fun x => { tmps := #[.func (.yield l) #[] #[], .pointer (some ⟨Be, 0, none⟩), .pointer (some ⟨W.heap.size, 0, none⟩), undef, grV B, undef, x.2, .slice (some ⟨gl, 0, none⟩) k k, .int .i64 k, .int .i64 r, .bool true, .pointer (some ⟨gl, r, none⟩), grV B, grV B, .int .i64 x.1, x.2, u16, u17, u18, u19, u20], defers := [] }) ?assign ?body ?done ?stop
      case assign =>
        intro l2 x V K' hK'
        gi_wp2
        exact hK'
      case body =>
        rintro l2 pre ⟨x1, x⟩ V E hSp ⟨C, op, hol, hJs, st, hCE, hE, hEC⟩ hgv hgb hwE hlw hszV hlen
        have hd : 1 ≤ n - 1 - 1 := by omega
        have c2 := st.b2.cell
        obtain ⟨q, hq⟩ : ∃ q, pre.length = q := ⟨_, rfl⟩
        have HQ : Hid ((pre ++ [(x1, x)]).length = q + 1) := Hid.mk (by rw [List.length_append, List.length_singleton, hq])
        rw [hq] at hol hlen
        have hgq := HN.out.2 q hlen
        have hNx : NL V W.heap.size x ((eac L m).getD op.length []) := by
          rw [hol, hgq.1, ← hgq.2.2]
          have h5 : NL V (wr.heap.size + 2) x ((grs P m).getD pre.length []) := hgv
          rw [hq] at h5
          exact h5.base (by omega)
        obtain ⟨fn, tmps, assign, body, hy, hRd⟩ := hY op x V C (by rw [List.length_append, List.length_singleton]; omega) hJs hNx (fun j hj => by
          obtain ⟨h5, h6⟩ := hgb j hj
          exact ⟨(hEC j h5).elim id (fun h => by omega), by omega⟩) st.wi (by omega) (by omega)
        dsimp only [encE] at hy
        have hRd' := RoundIn.within (m' := n - 1 - 1 - 1) (l2 := l2) hRd
        have HT := Hid.mk (And.intro st (And.intro hCE (And.intro hE (And.intro hEC hol))))
        clear hRd hY hNx hgq hgv hgb hSp hJs st hCE hEC hq hseq HN hol
        gi_wp2
        refine hRd'.mono ?_
        clear hRd' hy
        rintro e W3 ⟨C', (⟨rfl, hJ3, ho3⟩ | ⟨rfl, hJx3, ho3⟩)⟩
        · have hHZ := Hid.mk (And.intro (ho3.wide HT.out.2.1) (And.intro hJ3 (And.intro (HT.out.1.turn ho3) (And.intro (ho3.wider HT.out.2.1) (fun k (hk : E k ∨ (V.heap.size ≤ k ∧ k < W3.heap.size)) => (show C' k ∨ k < wr.heap.size from hk.elim (fun hh => (HT.out.2.2.2.1 k hh).imp (fun hc => ho3.on hc) id) fun hh => .inl ((ho3.more k).2 (.inr hh))))))))
          clear hJ3 ho3
          gi_wp2
          exact ⟨_, hHZ.out.1, C', _, by rw [List.length_append, List.length_singleton, HQ.out, HT.out.2.2.2.2, Nat.add_assoc], hHZ.out.2.1, hHZ.out.2.2.1, hHZ.out.2.2.2.1, fun k hk => .inl (HT.out.2.2.1 k hk), hHZ.out.2.2.2.2⟩
        · have hHZ := Hid.mk (And.intro (ho3.wide HT.out.2.1) (And.intro hJx3 (And.intro (HT.out.1.turn ho3) (ho3.wider HT.out.2.1))))
          clear hJx3 ho3
          gi_wp2
          exact ⟨_, hHZ.out.1, rfl, C', _, by rw [List.length_append, List.length_singleton, HQ.out, HT.out.2.2.2.2, Nat.add_assoc], hHZ.out.2.1, hHZ.out.2.2.1.marks, hHZ.out.2.2.1.nm, hHZ.out.2.2.1.wi, hHZ.out.2.2.2, fun k hk => .inl (HT.out.2.2.1 k hk)⟩
      case done =>
        rintro D ys E V hD hED hys ⟨C, op, hol, hJs, st, hCE, hE, hEC⟩ _ _ hKD
        have hyl : ys.length = cn P.length m := by
          have h5 := congrArg List.length hys
          rwa [List.length_map, pls_len] at h5
        rw [hyl, ← HN.out.1] at hol
        have hzV : W.heap.size < V.heap.size := st.b2.lt
        have hdl := HJ.out.2.2.dl
        have HO := Hid.mk (show ∃ (C : Nat → Prop) (opre : List Value), opre.length = (eac (L.take (r + 1)) m).length ∧ J opre C V ∧ EaSt W.heap.size l ({ target := .collected D, args := #[] } :: ds) C V from ⟨C, op, hol, hJs, st.b2, .cons (by omega) hKD (fun d hd he => by have := hdl d hd D he; omega) st.marks, st.n2, fun d hd D' he => by
          rcases List.mem_cons.1 hd with rfl | hd
          · cases he
            exact fun h => hED (hCE _ h)
          · exact st.nm d hd D' he, st.wi⟩)
        clear hol hJs st hCE hE hEC hyl hys hseq HN
        gi_wp2
        exact ⟨⟨_, _, _, _, _, _, _, _, _, _, _, _, _, _, _, ⟨r + 1, by omega, by go_num, hzV, HO⟩, rfl⟩, by simp [intOf]; omega⟩
      case stop =>
        rintro D cc pre E V hD hED hSp ⟨rfl, C, op, hol, hjx, hmk, hnm, hwi, hCE, hE⟩ _ _ hKD
        have hdl := HJ.out.2.2.dl
        have hnm' : ∀ d ∈ ({ target := .collected D, args := #[] } : Deferred) :: ds, ∀ D', d.target = .collected D' → ¬ C D' := fun d hd D' he => by
          rcases List.mem_cons.1 hd with rfl | hd
          · cases he
            exact fun h => hED (hCE _ h)
          · exact hnm d hd D' he
        obtain ⟨c, hc, hpe⟩ := hSp
        have hpl : pre.length = c := by
          have h5 := congrArg List.length hpe
          rwa [List.length_map, pls_len] at h5
        have hT : op.length ≤ T := by
          rw [hol, hpl]
          rcases Nat.eq_zero_or_pos c with h0 | h0
          · have h6 := HP.out
            omega
          · have h6 := (HN.out.2 (c - 1) (by omega)).2.1
            omega
        gi_wp2
        refine leaves_set (C := C) (.cons (by omega) hKD (fun d hd he => by have := hdl d hd D he; omega) hmk) hnm' fun w' hw' _ => ⟨_, results_none rfl _ _ _, ⟨_, rfl⟩, .inr ⟨op, C, hT, hJx _ _ _ _ hjx hw', hwi.stay hw'⟩⟩
    · obtain rfl : r = k := by omega
      obtain ⟨C, opre, hol, hJr, st⟩ := HR.out
      have hT : opre.length = T := by
        have h5 := HL.out.1
        rw [hol, ← HL.out.2.2.1, ← h5, List.take_length]
      gi_wp2
      exact leaves_set (C := C) st.marks st.nm fun w' hw' _ => ⟨_, results_none rfl _ _ _, ⟨_, rfl⟩, .inl ⟨opre, C, hT, hJ _ _ _ _ hJr hw', st.wi.stay hw'⟩⟩
end Go.Proofs.Ytiiflegfbieblaa
