/-
  A range over a function that gives away what it hands over: blocks that it lays in its rounds become the caller's. What is given is told at each round; the caller's word must bear that new blocks become its own.
-/
import Derived.Test.YtiiflegfbieblaaRangeSet
namespace Go.Proofs.Ytiiflegfbieblaa
open Go.RowKit

variable {F : Fence} {n : Nat} {P : Program}

/-- The set with all that has come between. -/
abbrev Grown (C : Nat → Prop) (a b : World) : Nat → Prop := fun k => C k ∨ (a.heap.size ≤ k ∧ k < b.heap.size)

/-- The iterator g hands over what it has, as long as it is told to go on, whatever turns in blocks that are not the caller's; what it hands over is given (Gv: what is told of it, over the world's size at the beginning; gb: its blocks). -/
def SeqGive {α : Type} (F : Fence) (n : Nat) (P : Program) (g : Nat) (lb : Array Value) (encs : α → Array Value) (lo : Nat) (Kp : World → Prop) (S Sp : List α → Prop) (N : Nat) (Gv : Nat → List α → α → World → Prop) (gb : α → Nat → Prop) (w : World) : Prop :=
  ∀ (l : Nat) (J Jx : List α → (Nat → Prop) → World → Prop) (W : World) (C0 : Nat → Prop), More w W → Within C0 W → lo ≤ W.heap.size → (∀ s C A A', J s C A → Stay C A A' → J s C A') → (∀ s C A A', Jx s C A → Stay C A A' → Jx s C A') → (∀ s C A, J s C A → Kp A) →
    (∀ s C A A', J s C A → Within C A → More A A' → J s (Grown C A A') A') →
    (∀ pre x W1 C, Sp (pre ++ [x]) → J pre C W1 → Gv W.heap.size pre x W1 → (∀ j, gb x j → C j ∧ W.heap.size ≤ j) → Within C W1 → W.heap.size ≤ W1.heap.size → pre.length < N → YieldAt F (n - 1) P l (encs x) W1 fun e W' =>
      ∃ C', (e = .returned (.bool true) ∧ J (pre ++ [x]) C' W' ∧ Turn lo C C' W1 W') ∨ (e = .returned (.bool false) ∧ Jx (pre ++ [x]) C' W' ∧ Turn 0 C C' W1 W')) →
    J [] C0 W →
    CallsIn F n P g (#[.func (.yield l) #[] #[]] ++ lb) W fun e W' => (∃ v, e = .returned v) ∧ ((∃ xs C, S xs ∧ J xs C W' ∧ Within C W') ∨ (∃ pre C, Sp pre ∧ Jx pre C W' ∧ Within C W'))

theorem range_give {α : Type} {g : Operand} {ps : Array Tmp} {assign body : Code} {Q : Exit → Act → World → Prop} {a : Act} {w : World}
    (hro : F.round = none) (h1 : 1 ≤ n) {gf : Nat} {lb : Array Value} (hg : a.eval g = .func (.func gf) #[] lb) (hFg : F.fn gf) (eg : ∀ args w, (callFunc gf args).run P w = .ok (.enter gf args) w)
    {encs : α → Array Value} {lo : Nat} {Kp : World → Prop} {S Sp : List α → Prop} {N : Nat} {Gv : Nat → List α → α → World → Prop} {gb : α → Nat → Prop} {w0 : World} (hseq : SeqGive F (n - 1) P gf lb encs lo Kp S Sp N Gv gb w0) (hlo : lo ≤ w.heap.size) (hb0 : More w0 w) (hps : ∀ x, (encs x).size = ps.size)
    (hGv : ∀ base pre x A A', Gv base pre x A → Stay (gb x) A A' → Gv base pre x A')
    (I : List α → (Nat → Prop) → World → Prop) (Ix : Code → List α → (Nat → Prop) → World → Prop) (hI : ∀ s C A A', I s C A → Stay C A A' → I s C A') (hIx : ∀ c s C A A', Ix c s C A → Stay C A A' → Ix c s C A') (hKp : ∀ s C A, I s C A → Kp A)
    (hIm : ∀ s C A A', I s C A → Within C A → More A A' → I s (Grown C A A') A') (h0 : I [] (fun k => k < w.heap.size) w) (a₁ : α → Act)
    (hassign : ∀ (l : Nat) (x : α) (W : World) (K : Act → World → Prop), K (a₁ x) W →
      assign.wpIn (F.inRound l) (n - 1 - 1) P (Exit.then K (fun _ _ _ => False)) { tmps := (ps.zip (encs x)).foldl (fun t (p, v) => t.setIfInBounds p v) a.tmps, defers := [] } W)
    (hbody : ∀ (l : Nat) (pre : List α) (x : α) (W : World) (C : Nat → Prop), Sp (pre ++ [x]) → I pre C W → Gv (w.heap.size + 2) pre x W → (∀ j, gb x j → C j ∧ w.heap.size + 2 ≤ j) → Within C W → (∀ k, k < w.heap.size → C k) → w.heap.size ≤ W.heap.size → pre.length < N → body.wpIn (F.inRound l) (n - 1 - 1) P (postSet lo C I Ix (pre ++ [x]) W) (a₁ x) W)
    (hdone : ∀ (D : Nat) (xs : List α) (C : Nat → Prop) (W : World), w.heap.size ≤ D → ¬ C D → S xs → I xs C W → Within C W → (∀ k, k < w.heap.size → C k) → W.heap[D]? = some (.deferred (some [])) → Q .normal { a with defers := { target := .collected D, args := #[] } :: a.defers } W)
    (hstop : ∀ (D : Nat) (c : Code) (pre : List α) (C : Nat → Prop) (W : World), w.heap.size ≤ D → ¬ C D → Sp pre → Ix c pre C W → Within C W → (∀ k, k < w.heap.size → C k) → W.heap[D]? = some (.deferred (some [])) → c.wpIn F n P Q { a with defers := { target := .collected D, args := #[] } :: a.defers } W) :
    (Code.rangeFunc g ps assign body).wpIn F n P Q a w := by
  refine wpIn_rangeFunc fun fn hfn => ?_
  rw [hro]
  obtain ⟨rec, hrec⟩ : ∃ rec : LoopState → Option Code → Loop, rec = fun st pe => { state := st, pending := pe, fn, tmps := a.tmps, params := ps, assign, body, defers := w.heap.size } := ⟨_, rfl⟩
  obtain ⟨W1, hW1⟩ : ∃ W1, (w.alloc (.deferred (some []))).alloc (.loop (rec .ready none)) = W1 := ⟨_, rfl⟩
  have hs1 : W1.heap.size = w.heap.size + 2 := by rw [← hW1]; simp
  have hL1 : W1.heap[w.heap.size + 1]? = some (.loop (rec .ready none)) := by
    have := World.alloc_heap_new (w.alloc (.deferred (some []))) (.loop (rec .ready none)); rw [World.size_alloc] at this; rw [← hW1]; exact this
  have hD1 : W1.heap[w.heap.size]? = some (.deferred (some [])) := by rw [← hW1]; exact (Below.heap_alloc _ _ _ (by simp)).trans (World.alloc_heap_new w _)
  have hm1 : More w W1 := by rw [← hW1]; exact ((Below.refl _ w).alloc (Nat.le_refl _) _).alloc (by simp) _
  refine ⟨w.heap.size + 1, [{ target := .collected w.heap.size, args := #[] }], W1, { target := .fn (.func gf) lb, args := #[.func (.yield (w.heap.size + 1)) #[] #[]] }, W1, gf,
    #[.func (.yield (w.heap.size + 1)) #[] #[]] ++ lb, W1, by rw [← hW1, hrec]; exact run_enterLoop_outer _ _ _ _ _, by simp only [resolve, hg]; simp [go_sem], fun f' hf' => by simp [Target.leads] at hf'; subst hf'; exact hFg, by simp [invoke, go_sem, eg], fun _ => h1, ?_⟩
  obtain ⟨D0, hD0⟩ : ∃ D0, w.heap.size = D0 := ⟨_, rfl⟩
  rw [hD0] at hs1 hL1 hD1 ⊢
  refine (hseq (D0 + 1)
    (fun pre Cs W => ∃ C : Nat → Prop, (∀ k, Cs k ↔ C k ∨ k = D0 ∨ k = D0 + 1) ∧ ¬ C D0 ∧ ¬ C (D0 + 1) ∧ (∀ k, k < D0 → C k) ∧ I pre C W ∧ W.heap[D0 + 1]? = some (.loop (rec .ready none)) ∧ W.heap[D0]? = some (.deferred (some [])))
    (fun pre Cs W => ∃ (C : Nat → Prop) (c : Code), (∀ k, Cs k ↔ C k ∨ k = D0 ∨ k = D0 + 1) ∧ ¬ C D0 ∧ ¬ C (D0 + 1) ∧ (∀ k, k < D0 → C k) ∧ Ix c pre C W ∧ W.heap[D0 + 1]? = some (.loop (rec .done (some c))) ∧ W.heap[D0]? = some (.deferred (some [])))
    W1 (fun k => k < D0 + 2) (More.trans hb0 hm1) (fun k hk => by rw [hs1]; exact hk) (by omega)
    (fun s Cs A A' ⟨C, hc, hn1, hn2, hlt, h, h2, h3⟩ k => ⟨C, hc, hn1, hn2, hlt, hI s C A A' h (k.sub fun j hj => (hc j).2 (.inl hj)), (k.block _ ((hc _).2 (.inr (.inr rfl)))).trans h2, (k.block _ ((hc _).2 (.inr (.inl rfl)))).trans h3⟩)
    (fun s Cs A A' ⟨C, c, hc, hn1, hn2, hlt, h, h2, h3⟩ k => ⟨C, c, hc, hn1, hn2, hlt, hIx c s C A A' h (k.sub fun j hj => (hc j).2 (.inl hj)), (k.block _ ((hc _).2 (.inr (.inr rfl)))).trans h2, (k.block _ ((hc _).2 (.inr (.inl rfl)))).trans h3⟩)
    (fun s Cs A ⟨C, _, _, _, _, h, _⟩ => hKp s C A h)
    (fun s Cs A A' ⟨C, hc, hn1, hn2, hlt, h, h2, h3⟩ hwi k => ?grow) ?_ ⟨fun k => k < D0, fun k => by omega, by omega, by omega, fun _ h => h, hI _ _ _ _ (by rw [hD0] at h0; exact h0) (Stay.of_more hm1 (fun k hk => by rw [hD0]; exact hk)), hL1, hD1⟩).mono ?_
  case grow =>
    have l2 := lt_of_block h2
    have l3 := lt_of_block h3
    refine ⟨Grown C A A', fun j => ?_, fun hh => hh.elim hn1 (fun hh => by omega), fun hh => hh.elim hn2 (fun hh => by omega), fun j hj => .inl (hlt j hj), hIm s C A A' h (fun j hj => hwi j ((hc j).2 (.inl hj))) k, (k.block _ l2).trans h2, (k.block _ l3).trans h3⟩
    show Cs j ∨ _ ↔ (C j ∨ _) ∨ _
    rw [hc j]
    constructor
    · rintro ((hh | hh) | hh)
      · exact .inl (.inl hh)
      · exact .inr hh
      · exact .inl (.inr hh)
    · rintro ((hh | hh) | hh)
      · exact .inl (.inl hh)
      · exact .inr hh
      · exact .inl (.inr hh)
  · rintro pre x W Cs hSpx ⟨C, hc, hn1, hn2, hlt, hi, hl, hk⟩ hgv hgb hwi hsz hlen
    have hy := run_yield (P := P) (args := encs x) hl (by rw [hrec]; exact hps x)
    rw [hrec] at hy
    refine ⟨fn, _, assign, body, hy, roundIn_of_wpIn hfn (hassign _ x W _ ⟨_, run_beginRound hl (by rw [hrec]), ?_⟩)⟩
    clear hy
    have hwiC : Within C W := fun k h => hwi k ((hc k).2 (.inl h))
    have hgbC : ∀ j, gb x j → C j ∧ D0 + 2 ≤ j := fun j hj => by
      obtain ⟨h5, h6⟩ := hgb j hj
      refine ⟨((hc j).1 h5).elim id fun h7 => ?_, by omega⟩
      omega
    obtain ⟨W2, hW2⟩ : ∃ W2, W.putObj (D0 + 1) (.loop { rec .ready none with state := .busy }) = W2 := ⟨_, rfl⟩
    have hs2 : W2.heap.size = W.heap.size := by rw [← hW2]; simp
    have hl2 : W2.heap[D0 + 1]? = some (.loop { rec .ready none with state := .busy }) := by rw [← hW2]; exact World.putObj_heap_same (by omega)
    have hk2 : W2.heap[D0]? = some (.deferred (some [])) := by rw [← hW2]; exact (World.putObj_heap_other (by omega)).trans hk
    have hb2 : ∀ k, k ≠ D0 + 1 → W2.heap[k]? = W.heap[k]? := fun k h => by rw [← hW2]; exact World.putObj_heap_other h
    have ho2 : W2.os = W.os ∧ W2.tape = W.tape ∧ W2.output = W.output := by rw [← hW2]; exact ⟨rfl, rfl, rfl⟩
    have hi2 : I pre C W2 := by rw [← hW2]; exact hI _ _ _ _ hi (Stay.putObj _ _ _ hn2)
    have hgv2 : Gv (D0 + 2) pre x W2 := by rw [← hs1, ← hW2]; exact hGv _ _ _ _ _ hgv (Stay.putObj _ _ _ fun hh => by have := (hgbC _ hh).2; omega)
    have fin : ∀ (L : Nat) (jump : Option Code) (W3 : World) (C' : Nat → Prop), L ≤ D0 → Turn L C C' W2 W3 → ∃ W4, (Instr.endRound (D0 + 1) jump).run P W3 = .ok (.bool jump.isNone) W4 ∧ W4.heap[D0 + 1]? = some (.loop (rec (if jump.isNone then .ready else .done) jump)) ∧ W4.heap[D0]? = some (.deferred (some [])) ∧ Stay C' W3 W4 ∧ Turn L Cs (fun k => C' k ∨ k = D0 ∨ k = D0 + 1) W W4 ∧ ¬ C' D0 ∧ ¬ C' (D0 + 1) ∧ (∀ k, k < D0 → C' k) := fun L jump W3 C' hL h3 => by
      have hl3 := (h3.block _ (by omega) (.inr hn2)).trans hl2
      have hk3 := (h3.block _ (by omega) (.inr hn1)).trans hk2
      have hr := run_endRound (P := P) jump hl3
      have hlt3 : D0 + 1 < W3.heap.size := by have := h3.size; omega
      have hn1' := h3.off hn1 (by omega)
      have hn2' := h3.off hn2 (by omega)
      refine ⟨_, hr, by rw [hrec]; exact World.putObj_heap_same hlt3, (World.putObj_heap_other (by omega)).trans hk3, Stay.putObj _ _ _ hn2', ?_, hn1', hn2', fun k hk => h3.on (hlt k hk)⟩
      refine ⟨h3.os.trans ho2.1, h3.tape.trans ho2.2.1, h3.output.trans ho2.2.2, by have := h3.size; simp; omega, fun k hk hd => ?_, fun k => ?_⟩
      · have hne : k ≠ D0 + 1 := fun e => by
          subst e
          rcases hd with h | h
          · omega
          · exact h ((hc _).2 (.inr (.inr rfl)))
        rw [World.putObj_heap_other hne, h3.block k (by omega) (hd.imp id fun hn hC => hn ((hc k).2 (.inl hC))), hb2 k hne]
      · rw [hc k, h3.more k, hs2]
        simp only [World.putObj, Array.size_setIfInBounds]
        constructor
        · rintro ((h | h) | h)
          · exact .inl (.inl h)
          · exact .inr h
          · exact .inl (.inr h)
        · rintro ((h | h) | h)
          · exact .inl (.inl h)
          · exact .inr h
          · exact .inl (.inr h)
    rw [hW2]
    refine wpIn_mono (hbody _ pre x W2 C hSpx hi2 (by rw [hD0]; exact hgv2) (by rw [hD0]; exact hgbC) (hwiC.more (by omega)) (by rw [hD0]; exact hlt) (by omega) hlen) ?_
    rintro e a3 W3 hp
    cases e with
    | normal =>
      obtain ⟨C', ht, hx⟩ := hp
      obtain ⟨W4, hr, hl4, hk4, hb4, ho4, n1, n2, hl5⟩ := fin lo none W3 C' (by omega) ht
      exact ⟨_, _, hr, _, .inl ⟨rfl, ⟨C', fun _ => Iff.rfl, n1, n2, hl5, hI _ _ _ _ hx hb4, hl4, hk4⟩, ho4⟩⟩
    | ret =>
      obtain ⟨C', ht, hx⟩ := hp
      obtain ⟨W4, hr, hl4, hk4, hb4, ho4, n1, n2, hl5⟩ := fin 0 (some .ret) W3 C' (by omega) ht
      exact ⟨_, _, hr, _, .inr ⟨rfl, ⟨C', .ret, fun _ => Iff.rfl, n1, n2, hl5, hIx _ _ _ _ _ hx hb4, hl4, hk4⟩, ho4⟩⟩
    | exit id =>
      obtain ⟨C', ht, hx⟩ := hp
      obtain ⟨W4, hr, hl4, hk4, hb4, ho4, n1, n2, hl5⟩ := fin 0 (some (.exit id)) W3 C' (by omega) ht
      exact ⟨_, _, hr, _, .inr ⟨rfl, ⟨C', .exit id, fun _ => Iff.rfl, n1, n2, hl5, hIx _ _ _ _ _ hx hb4, hl4, hk4⟩, ho4⟩⟩
    | goto t =>
      obtain ⟨C', ht, hx⟩ := hp
      obtain ⟨W4, hr, hl4, hk4, hb4, ho4, n1, n2, hl5⟩ := fin 0 (some (.goto t)) W3 C' (by omega) ht
      exact ⟨_, _, hr, _, .inr ⟨rfl, ⟨C', .goto t, fun _ => Iff.rfl, n1, n2, hl5, hIx _ _ _ _ _ hx hb4, hl4, hk4⟩, ho4⟩⟩
    | panic ch => exact hp.elim
    | outgrown => exact hp.elim
  · rintro e W2 ⟨⟨v, rfl⟩, (⟨xs, Cs, hS, ⟨C, hc, hn1, hn2, hlt, hi, hl, hk⟩, hwi⟩ | ⟨pre, Cs, hSp, ⟨C, c, hc, hn1, hn2, hlt, hi, hl, hk⟩, hwi⟩)⟩
    · refine ⟨none, _, by have := run_endLoop (P := P) hl (by rw [hrec]; simp); rw [hrec] at this; exact this, ?_⟩
      rw [hD0] at hdone
      exact hdone _ xs C _ (Nat.le_refl _) hn1 hS (hI _ _ _ _ hi (Stay.putObj _ _ _ hn2)) (fun k h => by simp; exact hwi k ((hc k).2 (.inl h))) hlt ((World.putObj_heap_other (by omega)).trans hk)
    · refine ⟨some c, _, by have := run_endLoop (P := P) hl (by rw [hrec]; simp); rw [hrec] at this; exact this, ?_⟩
      rw [hD0] at hstop
      exact hstop _ c pre C _ (Nat.le_refl _) hn1 hSp (hIx _ _ _ _ _ hi (Stay.putObj _ _ _ hn2)) (fun k h => by simp; exact hwi k ((hc k).2 (.inl h))) hlt ((World.putObj_heap_other (by omega)).trans hk)

/-- What is given is all the caller's, wherever it is from: also one that gives nothing. -/
theorem SeqSet.gives {α : Type} {g : Nat} {lb : Array Value} {encs : α → Array Value} {lo : Nat} {Kp : World → Prop} {S Sp : List α → Prop} {N : Nat} {w : World} (h : SeqSet F n P g lb encs lo Kp S Sp N w) : SeqGive F n P g lb encs lo Kp S Sp N (fun _ _ _ _ => True) (fun _ _ => False) w :=
  fun l J Jx W C0 h1 h2 h3 h4 h5 h6 _ hY h0 => h l J Jx W C0 h1 h2 h3 h4 h5 h6 (fun pre x W1 C a b c d e => hY pre x W1 C a b trivial (fun _ h => h.elim) c d e) h0

end Go.Proofs.Ytiiflegfbieblaa
