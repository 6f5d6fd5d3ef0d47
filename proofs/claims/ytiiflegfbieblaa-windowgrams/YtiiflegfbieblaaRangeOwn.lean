/-
  A range over a function whose iterator keeps cells of its own and goes over another iterator itself: what it asks of the rounds, and the law for the loop. The kit's laws ask that the caller's word abide the turns of an iterator's walks alone; here it abides whatever turns in blocks that the iterator itself has laid, and a round turns blocks of the caller's alone.
-/
import Derived.Test.YtiiflegfbieblaaTokMem
import Derived.RangeFuncNested
import Derived.RangeFuncBound
import Derived.RangeFuncCalls
import Derived.RangeFuncLeaves
import Derived.RangeFuncBox
import Derived.RangeFuncFrom
namespace Go.Proofs.Ytiiflegfbieblaa
open Go.RowKit

/-- From w to w' blocks from lo on and below hi alone have turned; new ones may have come. -/
structure Only (lo hi : Nat) (w w' : World) : Prop where
  os : w'.os = w.os
  tape : w'.tape = w.tape
  output : w'.output = w.output
  size : w.heap.size ≤ w'.heap.size
  block : ∀ k, k < w.heap.size → (k < lo ∨ hi ≤ k) → w'.heap[k]? = w.heap[k]?

theorem Only.refl (lo hi : Nat) (w : World) : Only lo hi w w := ⟨rfl, rfl, rfl, Nat.le_refl _, fun _ _ _ => rfl⟩
theorem Only.trans {lo hi : Nat} {a b c : World} (h : Only lo hi a b) (k : Only lo hi b c) : Only lo hi a c :=
  ⟨k.os.trans h.os, k.tape.trans h.tape, k.output.trans h.output, Nat.le_trans h.size k.size, fun i hi hd => (k.block i (Nat.lt_of_lt_of_le hi h.size) hd).trans (h.block i hi hd)⟩
theorem Only.mono {lo hi lo' hi' : Nat} {a b : World} (h : Only lo hi a b) (hl : lo' ≤ lo) (hh : hi ≤ hi') : Only lo' hi' a b :=
  ⟨h.os, h.tape, h.output, h.size, fun i hi hd => h.block i hi (by omega)⟩
theorem Only.of_more {lo hi : Nat} {a b : World} (h : More a b) : Only lo hi a b := ⟨h.os, h.tape, h.output, h.size, fun i hi _ => h.block i hi⟩
theorem Only.below {lo hi : Nat} {a b : World} (h : Only lo hi a b) (hl : lo ≤ a.heap.size) : Below lo a b := ⟨h.os, h.tape, h.output, h.size, fun i hi => h.block i (Nat.lt_of_lt_of_le hi hl) (.inl hi)⟩
theorem Only.setCell {lo hi : Nat} {a b : World} (h : Only lo hi a b) {p : Addr} (h1 : lo ≤ p.block) (h2 : p.block < hi) (v : Value) : Only lo hi a (b.setCell p v) :=
  h.trans ⟨rfl, rfl, rfl, (KeepsOthers.setCell b p v).size, fun i _ hd => Below.heap_setCell _ _ _ _ (by omega)⟩
theorem Only.putObj (lo hi : Nat) (w : World) (l : Nat) (o : Obj) (h1 : lo ≤ l) (h2 : l < hi) : Only lo hi w (w.putObj l o) :=
  ⟨rfl, rfl, rfl, by simp, fun i _ hd => World.putObj_heap_other (by omega)⟩
theorem below_putObj (B : Nat) (w : World) (l : Nat) (o : Obj) (h : B ≤ l) : Below B w (w.putObj l o) := ⟨rfl, rfl, rfl, by simp, fun i _ => World.putObj_heap_other (by omega)⟩
theorem Only.boxed {lo hi : Nat} {a b : World} (h : Only lo hi a b) {B : Nat} {t : TypeId} {v : Value} (hb : Boxed a B t v) (hB : hi ≤ B) : Boxed b B t v := (h.block B hb.lt (.inr hB)).trans hb

variable {F : Fence} {n : Nat} {P : Program}

/-- The iterator g hands over what it has, as long as it is told to go on, whatever turns in the blocks that it has laid; of a round it asks that blocks from lo on, and below those that it has laid, turn alone. What it hands over goes on in its list. Kp: what the caller's word must bear all the time (a box that the iterator reads in each round). -/
def SeqOwn {α : Type} (F : Fence) (n : Nat) (P : Program) (g : Nat) (lb : Array Value) (encs : α → Array Value) (lo : Nat) (Kp : World → Prop) (S Sp : List α → Prop) (N : Nat) (w : World) : Prop :=
  ∀ (l : Nat) (J Jx : List α → World → Prop) (W : World), More w W → lo ≤ W.heap.size → (∀ s A A', J s A → Below W.heap.size A A' → J s A') → (∀ s A A', Jx s A → Below W.heap.size A A' → Jx s A') → (∀ s A, J s A → Kp A) →
    (∀ pre x W1, Sp (pre ++ [x]) → J pre W1 → W.heap.size ≤ W1.heap.size → pre.length < N → YieldAt F (n - 1) P l (encs x) W1 fun e W' =>
      (e = .returned (.bool true) ∧ J (pre ++ [x]) W' ∧ Only lo W.heap.size W1 W') ∨ (e = .returned (.bool false) ∧ Jx (pre ++ [x]) W' ∧ Only 0 W.heap.size W1 W')) →
    J [] W →
    CallsIn F n P g (#[.func (.yield l) #[] #[]] ++ lb) W fun e W' => (∃ v, e = .returned v) ∧ ((∃ xs, S xs ∧ J xs W') ∨ (∃ pre, Sp pre ∧ Jx pre W'))

/-- What a body must achieve: it turns blocks of the caller's alone. -/
def postOwn {α : Type} (lo hi : Nat) (I : List α → World → Prop) (Ix : Code → List α → World → Prop) (xs : List α) (W : World) : Exit → Act → World → Prop
  | .normal, _, W' => Only lo hi W W' ∧ I xs W'
  | .ret, _, W' => Only 0 hi W W' ∧ Ix .ret xs W'
  | .exit id, _, W' => Only 0 hi W W' ∧ Ix (.exit id) xs W'
  | .goto t, _, W' => Only 0 hi W W' ∧ Ix (.goto t) xs W'
  | .panic _, _, _ => False
  | .outgrown, _, _ => False

theorem range_own {α : Type} {g : Operand} {ps : Array Tmp} {assign body : Code} {Q : Exit → Act → World → Prop} {a : Act} {w : World}
    (hro : F.round = none) (h1 : 1 ≤ n) {gf : Nat} {lb : Array Value} (hg : a.eval g = .func (.func gf) #[] lb) (hFg : F.fn gf) (eg : ∀ args w, (callFunc gf args).run P w = .ok (.enter gf args) w)
    {encs : α → Array Value} {lo : Nat} {Kp : World → Prop} {S Sp : List α → Prop} {N : Nat} {w0 : World} (hseq : SeqOwn F (n - 1) P gf lb encs lo Kp S Sp N w0) (hlo : lo ≤ w.heap.size) (hb0 : More w0 w) (hps : ∀ x, (encs x).size = ps.size)
    (I : List α → World → Prop) (Ix : Code → List α → World → Prop) (hI : ∀ s A A', I s A → Below w.heap.size A A' → I s A') (hIx : ∀ c s A A', Ix c s A → Below w.heap.size A A' → Ix c s A') (hKp : ∀ s A, I s A → Kp A) (h0 : I [] w) (a₁ : α → Act)
    (hassign : ∀ (l : Nat) (x : α) (W : World) (K : Act → World → Prop), K (a₁ x) W →
      assign.wpIn (F.inRound l) (n - 1 - 1) P (Exit.then K (fun _ _ _ => False)) { tmps := (ps.zip (encs x)).foldl (fun t (p, v) => t.setIfInBounds p v) a.tmps, defers := [] } W)
    (hbody : ∀ (l : Nat) (pre : List α) (x : α) (W : World), Sp (pre ++ [x]) → I pre W → w.heap.size ≤ W.heap.size → pre.length < N → body.wpIn (F.inRound l) (n - 1 - 1) P (postOwn lo w.heap.size I Ix (pre ++ [x]) W) (a₁ x) W)
    (hdone : ∀ (D : Nat) (xs : List α) (W : World), w.heap.size ≤ D → S xs → I xs W → W.heap[D]? = some (.deferred (some [])) → Q .normal { a with defers := { target := .collected D, args := #[] } :: a.defers } W)
    (hstop : ∀ (D : Nat) (c : Code) (pre : List α) (W : World), w.heap.size ≤ D → Sp pre → Ix c pre W → W.heap[D]? = some (.deferred (some [])) → c.wpIn F n P Q { a with defers := { target := .collected D, args := #[] } :: a.defers } W) :
    (Code.rangeFunc g ps assign body).wpIn F n P Q a w := by
  refine wpIn_rangeFunc fun fn hfn => ?_
  rw [hro]
  obtain ⟨rec, hrec⟩ : ∃ rec : LoopState → Option Code → Loop, rec = fun st pe => { state := st, pending := pe, fn, tmps := a.tmps, params := ps, assign, body, defers := w.heap.size } := ⟨_, rfl⟩
  obtain ⟨W1, hW1⟩ : ∃ W1, (w.alloc (.deferred (some []))).alloc (.loop (rec .ready none)) = W1 := ⟨_, rfl⟩
  have hs1 : W1.heap.size = w.heap.size + 2 := by rw [← hW1]; simp
  have hL1 : W1.heap[w.heap.size + 1]? = some (.loop (rec .ready none)) := by
    have := World.alloc_heap_new (w.alloc (.deferred (some []))) (.loop (rec .ready none)); rw [World.size_alloc] at this; rw [← hW1]; exact this
  have hD1 : W1.heap[w.heap.size]? = some (.deferred (some [])) := by rw [← hW1]; exact (Below.heap_alloc _ _ _ (by simp)).trans (World.alloc_heap_new w _)
  have hm1 : More w W1 := by rw [← hW1]; exact ((Below.refl _ w).alloc (Nat.le_refl _) _).alloc (by simp) _
  refine ⟨w.heap.size + 1, [{ target := .collected w.heap.size, args := #[] }], W1, { target := .fn (.func gf) lb, args := #[.func (.yield (w.heap.size + 1)) #[] #[]] }, W1, gf,
    #[.func (.yield (w.heap.size + 1)) #[] #[]] ++ lb, W1, by rw [← hW1, hrec]; exact run_enterLoop_outer _ _ _ _ _, by simp only [resolve, hg]; simp [go_sem], fun f' hf' => by simp [Target.leads] at hf'; subst hf'; exact hFg, by simp [invoke, go_sem, eg], fun _ => h1, ?_⟩
  have hb : ∀ {A A' : World}, Below W1.heap.size A A' → Below w.heap.size A A' := fun h => h.mono (by omega)
  refine (hseq (w.heap.size + 1)
    (fun pre W => I pre W ∧ W.heap[w.heap.size + 1]? = some (.loop (rec .ready none)) ∧ W.heap[w.heap.size]? = some (.deferred (some [])))
    (fun pre W => ∃ c, Ix c pre W ∧ W.heap[w.heap.size + 1]? = some (.loop (rec .done (some c))) ∧ W.heap[w.heap.size]? = some (.deferred (some [])))
    W1 (More.trans hb0 hm1) (by omega)
    (fun s A A' h k => ⟨hI s A A' h.1 (hb k), (k.block _ (by omega)).trans h.2.1, (k.block _ (by omega)).trans h.2.2⟩)
    (fun s A A' ⟨c, h, h2, h3⟩ k => ⟨c, hIx c s A A' h (hb k), (k.block _ (by omega)).trans h2, (k.block _ (by omega)).trans h3⟩)
    (fun s A h => hKp s A h.1) ?_ ⟨hI _ _ _ h0 hm1, hL1, hD1⟩).mono ?_
  · rintro pre x W hSpx ⟨hi, hl, hk⟩ hsz hlen
    have hy := run_yield (P := P) (args := encs x) hl (by rw [hrec]; exact hps x)
    rw [hrec] at hy
    refine ⟨fn, _, assign, body, hy, roundIn_of_wpIn hfn (hassign _ x W _ ⟨_, run_beginRound hl (by rw [hrec]), ?_⟩)⟩
    clear hy
    obtain ⟨W2, hW2⟩ : ∃ W2, W.putObj (w.heap.size + 1) (.loop { rec .ready none with state := .busy }) = W2 := ⟨_, rfl⟩
    have hs2 : W2.heap.size = W.heap.size := by rw [← hW2]; simp
    have hl2 : W2.heap[w.heap.size + 1]? = some (.loop { rec .ready none with state := .busy }) := by rw [← hW2]; exact World.putObj_heap_same (by omega)
    have hk2 : W2.heap[w.heap.size]? = some (.deferred (some [])) := by rw [← hW2]; exact (World.putObj_heap_other (by omega)).trans hk
    have ho2 : Only lo W1.heap.size W W2 := by rw [← hW2]; exact Only.putObj _ _ _ _ _ (by omega) (by omega)
    have hi2 : I pre W2 := by rw [← hW2]; exact hI _ _ _ hi (below_putObj _ _ _ _ (by omega))
    have fin : ∀ (jump : Option Code) (W3 : World), Only 0 w.heap.size W2 W3 → ∃ W4, (Instr.endRound (w.heap.size + 1) jump).run P W3 = .ok (.bool jump.isNone) W4 ∧ W4.heap[w.heap.size + 1]? = some (.loop (rec (if jump.isNone then .ready else .done) jump)) ∧ W4.heap[w.heap.size]? = some (.deferred (some [])) ∧ Below w.heap.size W3 W4 ∧ Only lo W1.heap.size W3 W4 := fun jump W3 h3 => by
      have hl3 := (h3.block _ (by omega) (.inr (Nat.le_succ _))).trans hl2
      have hk3 := (h3.block _ (by omega) (.inr (Nat.le_refl _))).trans hk2
      have hr := run_endRound (P := P) jump hl3
      have hlt : w.heap.size + 1 < W3.heap.size := by have := h3.size; omega
      exact ⟨_, hr, by rw [hrec]; exact World.putObj_heap_same hlt, (World.putObj_heap_other (by omega)).trans hk3, below_putObj _ _ _ _ (by omega), Only.putObj _ _ _ _ _ (by omega) (by omega)⟩
    rw [hW2]
    refine wpIn_mono (hbody _ pre x W2 hSpx hi2 (by omega) hlen) ?_
    rintro e a3 W3 hp
    cases e with
    | normal =>
      obtain ⟨W4, hr, hl4, hk4, hb4, ho4⟩ := fin none W3 (hp.1.mono (Nat.zero_le _) (Nat.le_refl _))
      exact ⟨_, _, hr, .inl ⟨rfl, ⟨hI _ _ _ hp.2 hb4, hl4, hk4⟩, ho2.trans ((hp.1.mono (Nat.le_refl _) (by omega)).trans ho4)⟩⟩
    | ret =>
      obtain ⟨W4, hr, hl4, hk4, hb4, ho4⟩ := fin (some .ret) W3 hp.1
      exact ⟨_, _, hr, .inr ⟨rfl, ⟨.ret, hIx _ _ _ _ hp.2 hb4, hl4, hk4⟩, (ho2.mono (Nat.zero_le _) (Nat.le_refl _)).trans ((hp.1.mono (Nat.le_refl _) (by omega)).trans (ho4.mono (Nat.zero_le _) (Nat.le_refl _)))⟩⟩
    | exit id =>
      obtain ⟨W4, hr, hl4, hk4, hb4, ho4⟩ := fin (some (.exit id)) W3 hp.1
      exact ⟨_, _, hr, .inr ⟨rfl, ⟨.exit id, hIx _ _ _ _ hp.2 hb4, hl4, hk4⟩, (ho2.mono (Nat.zero_le _) (Nat.le_refl _)).trans ((hp.1.mono (Nat.le_refl _) (by omega)).trans (ho4.mono (Nat.zero_le _) (Nat.le_refl _)))⟩⟩
    | goto t =>
      obtain ⟨W4, hr, hl4, hk4, hb4, ho4⟩ := fin (some (.goto t)) W3 hp.1
      exact ⟨_, _, hr, .inr ⟨rfl, ⟨.goto t, hIx _ _ _ _ hp.2 hb4, hl4, hk4⟩, (ho2.mono (Nat.zero_le _) (Nat.le_refl _)).trans ((hp.1.mono (Nat.le_refl _) (by omega)).trans (ho4.mono (Nat.zero_le _) (Nat.le_refl _)))⟩⟩
    | panic ch => exact hp.elim
    | outgrown => exact hp.elim
  · rintro e W2 ⟨⟨v, rfl⟩, (⟨xs, hS, hi, hl, hk⟩ | ⟨pre, hSp, c, hi, hl, hk⟩)⟩
    · refine ⟨none, _, by have := run_endLoop (P := P) hl (by rw [hrec]; simp); rw [hrec] at this; exact this, ?_⟩
      exact hdone _ xs _ (Nat.le_refl _) hS (hI _ _ _ hi (below_putObj _ _ _ _ (by omega))) ((World.putObj_heap_other (by omega)).trans hk)
    · refine ⟨some c, _, by have := run_endLoop (P := P) hl (by rw [hrec]; simp); rw [hrec] at this; exact this, ?_⟩
      exact hstop _ c pre _ (Nat.le_refl _) hSp (hIx _ _ _ _ hi (below_putObj _ _ _ _ (by omega))) ((World.putObj_heap_other (by omega)).trans hk)

/-- Marks of loops that a function has gone through, each with its own block. -/
inductive Marks (B : Nat) (w : World) : List Deferred → Prop
  | nil : Marks B w []
  | cons {D : Nat} {ds : List Deferred} (hB : B ≤ D) (hD : w.heap[D]? = some (.deferred (some []))) (hne : ∀ d ∈ ds, d.target ≠ .collected D) (h : Marks B w ds) : Marks B w ({ target := .collected D, args := #[] } :: ds)

theorem Marks.kept {B : Nat} {w w' : World} {ds : List Deferred} (h : Marks B w ds) (hk : ∀ D, B ≤ D → (∃ d ∈ ds, d.target = .collected D) → w.heap[D]? = some (.deferred (some [])) → w'.heap[D]? = some (.deferred (some []))) : Marks B w' ds := by
  induction h with
  | nil => exact .nil
  | cons hB hD hne h ih => exact .cons hB (hk _ hB ⟨_, List.mem_cons_self, rfl⟩ hD) hne (ih fun D hD' ⟨d, hd, he⟩ => hk D hD' ⟨d, List.mem_cons_of_mem _ hd, he⟩)
theorem Marks.lt {B : Nat} {w : World} {ds : List Deferred} (h : Marks B w ds) : ∀ d ∈ ds, ∃ D, d.target = .collected D ∧ D < w.heap.size := by
  induction h with
  | nil => intro d hd; cases hd
  | cons hB hD hne h ih =>
    intro d hd
    rcases List.mem_cons.1 hd with rfl | hd
    · exact ⟨_, rfl, (Array.getElem?_eq_some_iff.1 hD).1⟩
    · exact ih d hd
theorem Marks.only {B lo hi : Nat} {w w' : World} {ds : List Deferred} (h : Marks B w ds) (k : Only lo hi w w') (hB : hi ≤ B) : Marks B w' ds :=
  h.kept fun D hD _ he => (k.block D (Array.getElem?_eq_some_iff.1 he).1 (.inr (Nat.le_trans hB hD))).trans he

theorem Marks.under {B C : Nat} {w w' : World} {ds : List Deferred} (h : Marks B w ds) (k : Below C w w') (hC : ∀ d ∈ ds, ∀ D, d.target = .collected D → D < C) : Marks B w' ds :=
  h.kept fun D _ ⟨d, hd, he⟩ h' => (k.block D (hC d hd D he)).trans h'
theorem Marks.setCell {B : Nat} {w : World} {ds : List Deferred} (h : Marks B w ds) (p : Addr) (v : Value) : Marks B (w.setCell p v) ds :=
  h.kept fun D _ _ h' => (KeepsOthers.setCell w p v).same D _ h' rfl
theorem Marks.lt' {B C : Nat} {w : World} {ds : List Deferred} (h : Marks B w ds) (hC : w.heap.size ≤ C) : ∀ d ∈ ds, ∀ D, d.target = .collected D → D < C := fun d hd D he => by
  obtain ⟨D', he', hl⟩ := h.lt d hd
  rw [he] at he'; cases he'; omega

/-- What abides whatever turns from B on is the law's own word. -/
theorem own_of_abides {β : Type} {B : Nat} {I : β → World → Prop} (hs : ∀ s A, I s A → B ≤ A.heap.size) (h : ∀ s A A', I s A → Below B A A' → I s A') : OwnFrom B I := fun s A A' row hi hg hr =>
  h s A A' hi ⟨hg.os, hg.tape, hg.output, hg.size, fun k hk => hg.block k (Nat.lt_of_lt_of_le hk (hs s A hi)) (fun e => by have := (hr k e.symm).1; omega)⟩
theorem RoundIn.any {m m' : Nat} {l : Nat} {f : FuncId} {tmps : Array Value} {assign body : Code} {w : World} {R : Ending → World → Prop} (h : RoundIn Fence.wide m P l f tmps assign body w R) : RoundIn Fence.wide m' P l f tmps assign body w R := ⟨h.1, fun c cs _ => h.2 c cs (by simp [Fence.room, Fence.wide])⟩

theorem RoundIn.within {m m' l2 : Nat} {l : Nat} {f : FuncId} {tmps : Array Value} {assign body : Code} {w : World} {R : Ending → World → Prop} (h : RoundIn Fence.wide m P l f tmps assign body w R) : RoundIn (Fence.wide.inRound l2) m' P l f tmps assign body w R := ⟨h.1, fun c cs _ => h.2 c cs (by simp [Fence.room, Fence.wide])⟩

/-- The way out of a function that has such marks: each block is shut. -/
theorem leaves_marks {fn : Func} {tmps : Array Value} {R : Ending → World → Prop} {B : Nat} : ∀ {ds : List Deferred} {w : World}, Marks B w ds → (∀ w', Below B w w' → LeavesIn F n P fn tmps R [] .returning w') → LeavesInM F n P fn tmps R ds .returning w := by
  intro ds
  induction ds with
  | nil => intro w _ h; exact h w (Below.refl _ _)
  | cons d ds ih =>
    intro w hM h
    cases hM with
    | cons hB hD hne hM =>
      refine ⟨by simp, .inl ⟨_, _, rfl, run_takeDeferred hD, ih (hM.kept fun D' _ ⟨d, hd, he⟩ h' => ?_) fun w' hw' => h w' ((below_putObj _ _ _ _ hB).trans hw')⟩⟩
      exact (World.putObj_heap_other (fun e => hne d hd (by rw [he, e]))).trans h'

end Go.Proofs.Ytiiflegfbieblaa
