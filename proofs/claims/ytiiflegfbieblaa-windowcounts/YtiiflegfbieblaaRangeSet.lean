/-
  A range over a function whose rounds lay blocks of their own and turn them in later rounds: which blocks are the caller's is told by a set, which grows by all that a round lays. The iterator turns blocks alone that are not in it; a round turns blocks of it alone.
-/
import Derived.Test.YtiiflegfbieblaaRangeOwn
namespace Go.Proofs.Ytiiflegfbieblaa
open Go.RowKit

/-- All blocks of the set are there. -/
def Within (C : Nat → Prop) (w : World) : Prop := ∀ k, C k → k < w.heap.size

/-- From w to w' the blocks of the set are as they were; others may have turned, new ones may have come. -/
structure Stay (C : Nat → Prop) (w w' : World) : Prop where
  os : w'.os = w.os
  tape : w'.tape = w.tape
  output : w'.output = w.output
  size : w.heap.size ≤ w'.heap.size
  block : ∀ k, C k → w'.heap[k]? = w.heap[k]?
theorem Stay.refl (C : Nat → Prop) (w : World) : Stay C w w := ⟨rfl, rfl, rfl, Nat.le_refl _, fun _ _ => rfl⟩
theorem Stay.trans {C : Nat → Prop} {a b c : World} (h : Stay C a b) (k : Stay C b c) : Stay C a c :=
  ⟨k.os.trans h.os, k.tape.trans h.tape, k.output.trans h.output, Nat.le_trans h.size k.size, fun i hi => (k.block i hi).trans (h.block i hi)⟩
theorem Stay.sub {C D : Nat → Prop} {a b : World} (h : Stay C a b) (hs : ∀ k, D k → C k) : Stay D a b := ⟨h.os, h.tape, h.output, h.size, fun k hk => h.block k (hs k hk)⟩
theorem Stay.of_more {C : Nat → Prop} {a b : World} (h : More a b) (hC : Within C a) : Stay C a b := ⟨h.os, h.tape, h.output, h.size, fun k hk => h.block k (hC k hk)⟩
theorem Stay.of_below {C : Nat → Prop} {B : Nat} {a b : World} (h : Below B a b) (hC : ∀ k, C k → k < B) : Stay C a b := ⟨h.os, h.tape, h.output, h.size, fun k hk => h.block k (hC k hk)⟩
theorem Stay.below {C : Nat → Prop} {B : Nat} {a b : World} (h : Stay C a b) (hC : ∀ k, k < B → C k) : Below B a b := ⟨h.os, h.tape, h.output, h.size, fun k hk => h.block k (hC k hk)⟩
theorem Stay.setCell {C : Nat → Prop} {a b : World} (h : Stay C a b) {p : Addr} (hp : ¬ C p.block) (v : Value) : Stay C a (b.setCell p v) :=
  h.trans ⟨rfl, rfl, rfl, (KeepsOthers.setCell b p v).size, fun _ hk => Below.heap_setCell _ _ _ _ (fun e => hp (e ▸ hk))⟩
theorem Stay.putObj {C : Nat → Prop} (w : World) (l : Nat) (o : Obj) (h : ¬ C l) : Stay C w (w.putObj l o) :=
  ⟨rfl, rfl, rfl, by simp, fun k hk => World.putObj_heap_other (fun e => h (e ▸ hk))⟩
theorem Stay.boxed {C : Nat → Prop} {a b : World} (h : Stay C a b) {B : Nat} {t : TypeId} {v : Value} (hb : Boxed a B t v) (hB : C B) : Boxed b B t v := (h.block B hB).trans hb
theorem Within.stay {C : Nat → Prop} {a b : World} (h : Within C a) (k : Stay C a b) : Within C b := fun i hi => Nat.lt_of_lt_of_le (h i hi) k.size
theorem Within.more {C : Nat → Prop} {a b : World} (h : Within C a) (k : a.heap.size ≤ b.heap.size) : Within C b := fun i hi => Nat.lt_of_lt_of_le (h i hi) k

/-- What a round does: of the old blocks such of the set turn alone, from lo on; the set grows by all that it has laid. -/
structure Turn (lo : Nat) (C C' : Nat → Prop) (w w' : World) : Prop where
  os : w'.os = w.os
  tape : w'.tape = w.tape
  output : w'.output = w.output
  size : w.heap.size ≤ w'.heap.size
  block : ∀ k, k < w.heap.size → (k < lo ∨ ¬ C k) → w'.heap[k]? = w.heap[k]?
  more : ∀ k, C' k ↔ C k ∨ (w.heap.size ≤ k ∧ k < w'.heap.size)
theorem Turn.refl (lo : Nat) (C : Nat → Prop) (w : World) : Turn lo C C w w := ⟨rfl, rfl, rfl, Nat.le_refl _, fun _ _ _ => rfl, fun _ => ⟨.inl, fun h => h.elim id fun h => by omega⟩⟩
theorem Turn.mono {lo lo' : Nat} {C C' : Nat → Prop} {a b : World} (h : Turn lo C C' a b) (hl : lo' ≤ lo) : Turn lo' C C' a b :=
  ⟨h.os, h.tape, h.output, h.size, fun k hk hd => h.block k hk (hd.imp (fun h => Nat.lt_of_lt_of_le h hl) id), h.more⟩
theorem Turn.trans {lo : Nat} {C C' C'' : Nat → Prop} {a b c : World} (h : Turn lo C C' a b) (k : Turn lo C' C'' b c) : Turn lo C C'' a c :=
  ⟨k.os.trans h.os, k.tape.trans h.tape, k.output.trans h.output, Nat.le_trans h.size k.size,
   fun i hi hd => (k.block i (Nat.lt_of_lt_of_le hi h.size) (hd.imp id fun hn hc => ((h.more i).1 hc).elim hn fun h2 => by omega)).trans (h.block i hi hd),
   fun i => by
    have h1 := h.size
    have h2 := k.size
    rw [k.more i, h.more i]
    constructor
    · rintro ((h | h) | h)
      · exact .inl h
      · exact .inr (by omega)
      · exact .inr (by omega)
    · rintro (h | h)
      · exact .inl (.inl h)
      · by_cases hb : i < b.heap.size
        · exact .inl (.inr ⟨h.1, hb⟩)
        · exact .inr ⟨by omega, h.2⟩⟩
theorem Turn.of_more {lo : Nat} {C : Nat → Prop} {a b : World} (h : More a b) : Turn lo C (fun k => C k ∨ (a.heap.size ≤ k ∧ k < b.heap.size)) a b := ⟨h.os, h.tape, h.output, h.size, fun k hk _ => h.block k hk, fun _ => Iff.rfl⟩
theorem Turn.drawn {lo : Nat} {C C' : Nat → Prop} {a b : World} {m : Nat} (h : Turn lo C C' (a.drewN m) b) : Turn lo C C' a b := ⟨h.os, h.tape, h.output, h.size, h.block, h.more⟩
theorem Turn.below {lo : Nat} {C C' : Nat → Prop} {a b : World} (h : Turn lo C C' a b) (hl : lo ≤ a.heap.size) : Below lo a b := ⟨h.os, h.tape, h.output, h.size, fun i hi => h.block i (Nat.lt_of_lt_of_le hi hl) (.inl hi)⟩
theorem Turn.within {lo : Nat} {C C' : Nat → Prop} {a b : World} (h : Turn lo C C' a b) (hC : Within C a) : Within C' b := fun k hk => ((h.more k).1 hk).elim (fun hc => Nat.lt_of_lt_of_le (hC k hc) h.size) fun h => h.2
theorem Turn.off {lo : Nat} {C C' : Nat → Prop} {a b : World} (h : Turn lo C C' a b) {k : Nat} (hn : ¬ C k) (hk : k < a.heap.size) : ¬ C' k := fun hc => ((h.more k).1 hc).elim hn fun h => by omega
theorem Turn.on {lo : Nat} {C C' : Nat → Prop} {a b : World} (h : Turn lo C C' a b) {k : Nat} (hc : C k) : C' k := (h.more k).2 (.inl hc)
theorem Turn.boxed {lo : Nat} {C C' : Nat → Prop} {a b : World} (h : Turn lo C C' a b) {B : Nat} {t : TypeId} {v : Value} (hb : Boxed a B t v) (hB : ¬ C B) : Boxed b B t v := (h.block B hb.lt (.inr hB)).trans hb
theorem Turn.boxed_lo {lo : Nat} {C C' : Nat → Prop} {a b : World} (h : Turn lo C C' a b) {B : Nat} {t : TypeId} {v : Value} (hb : Boxed a B t v) (hB : B < lo) : Boxed b B t v := (h.block B hb.lt (.inl hB)).trans hb
theorem Turn.setCell {lo : Nat} {C C' : Nat → Prop} {a b : World} (h : Turn lo C C' a b) {p : Addr} (h1 : lo ≤ p.block) (h2 : C' p.block) (v : Value) : Turn lo C C' a (b.setCell p v) := by
  have hs : (b.setCell p v).heap.size = b.heap.size := by simp
  refine ⟨h.os, h.tape, h.output, by rw [hs]; exact h.size, fun k hk hd => ?_, fun k => by rw [hs]; exact h.more k⟩
  rw [Below.heap_setCell _ _ _ _ (fun e => ?_)]
  · exact h.block k hk hd
  · subst e
    rcases (h.more _).1 h2 with h3 | h3
    · rcases hd with h4 | h4
      · omega
      · exact h4 h3
    · omega
/-- The same round, as one of a larger set. -/
theorem Turn.wide {lo : Nat} {C C' D : Nat → Prop} {a b : World} (h : Turn lo C C' a b) (hs : ∀ k, C k → D k) : Turn lo D (fun k => D k ∨ (a.heap.size ≤ k ∧ k < b.heap.size)) a b :=
  ⟨h.os, h.tape, h.output, h.size, fun k hk hd => h.block k hk (hd.imp id fun hn hc => hn (hs k hc)), fun _ => Iff.rfl⟩
theorem Turn.wider {lo : Nat} {C C' D : Nat → Prop} {a b : World} (h : Turn lo C C' a b) (hs : ∀ k, C k → D k) : ∀ k, C' k → D k ∨ (a.heap.size ≤ k ∧ k < b.heap.size) := fun k hk => ((h.more k).1 hk).imp (hs k) id

variable {F : Fence} {n : Nat} {P : Program}

/-- The iterator g hands over what it has, as long as it is told to go on, whatever turns in blocks that are not the caller's. -/
def SeqSet {α : Type} (F : Fence) (n : Nat) (P : Program) (g : Nat) (lb : Array Value) (encs : α → Array Value) (lo : Nat) (Kp : World → Prop) (S Sp : List α → Prop) (N : Nat) (w : World) : Prop :=
  ∀ (l : Nat) (J Jx : List α → (Nat → Prop) → World → Prop) (W : World) (C0 : Nat → Prop), More w W → Within C0 W → lo ≤ W.heap.size → (∀ s C A A', J s C A → Stay C A A' → J s C A') → (∀ s C A A', Jx s C A → Stay C A A' → Jx s C A') → (∀ s C A, J s C A → Kp A) →
    (∀ pre x W1 C, Sp (pre ++ [x]) → J pre C W1 → Within C W1 → W.heap.size ≤ W1.heap.size → pre.length < N → YieldAt F (n - 1) P l (encs x) W1 fun e W' =>
      ∃ C', (e = .returned (.bool true) ∧ J (pre ++ [x]) C' W' ∧ Turn lo C C' W1 W') ∨ (e = .returned (.bool false) ∧ Jx (pre ++ [x]) C' W' ∧ Turn 0 C C' W1 W')) →
    J [] C0 W →
    CallsIn F n P g (#[.func (.yield l) #[] #[]] ++ lb) W fun e W' => (∃ v, e = .returned v) ∧ ((∃ xs C, S xs ∧ J xs C W' ∧ Within C W') ∨ (∃ pre C, Sp pre ∧ Jx pre C W' ∧ Within C W'))

/-- What a body must achieve: it turns blocks of the caller's alone. -/
def postSet {α : Type} (lo : Nat) (C : Nat → Prop) (I : List α → (Nat → Prop) → World → Prop) (Ix : Code → List α → (Nat → Prop) → World → Prop) (xs : List α) (W : World) : Exit → Act → World → Prop
  | .normal, _, W' => ∃ C', Turn lo C C' W W' ∧ I xs C' W'
  | .ret, _, W' => ∃ C', Turn 0 C C' W W' ∧ Ix .ret xs C' W'
  | .exit id, _, W' => ∃ C', Turn 0 C C' W W' ∧ Ix (.exit id) xs C' W'
  | .goto t, _, W' => ∃ C', Turn 0 C C' W W' ∧ Ix (.goto t) xs C' W'
  | .panic _, _, _ => False
  | .outgrown, _, _ => False

theorem range_set {α : Type} {g : Operand} {ps : Array Tmp} {assign body : Code} {Q : Exit → Act → World → Prop} {a : Act} {w : World}
    (hro : F.round = none) (h1 : 1 ≤ n) {gf : Nat} {lb : Array Value} (hg : a.eval g = .func (.func gf) #[] lb) (hFg : F.fn gf) (eg : ∀ args w, (callFunc gf args).run P w = .ok (.enter gf args) w)
    {encs : α → Array Value} {lo : Nat} {Kp : World → Prop} {S Sp : List α → Prop} {N : Nat} {w0 : World} (hseq : SeqSet F (n - 1) P gf lb encs lo Kp S Sp N w0) (hlo : lo ≤ w.heap.size) (hb0 : More w0 w) (hps : ∀ x, (encs x).size = ps.size)
    (I : List α → (Nat → Prop) → World → Prop) (Ix : Code → List α → (Nat → Prop) → World → Prop) (hI : ∀ s C A A', I s C A → Stay C A A' → I s C A') (hIx : ∀ c s C A A', Ix c s C A → Stay C A A' → Ix c s C A') (hKp : ∀ s C A, I s C A → Kp A) (h0 : I [] (fun k => k < w.heap.size) w) (a₁ : α → Act)
    (hassign : ∀ (l : Nat) (x : α) (W : World) (K : Act → World → Prop), K (a₁ x) W →
      assign.wpIn (F.inRound l) (n - 1 - 1) P (Exit.then K (fun _ _ _ => False)) { tmps := (ps.zip (encs x)).foldl (fun t (p, v) => t.setIfInBounds p v) a.tmps, defers := [] } W)
    (hbody : ∀ (l : Nat) (pre : List α) (x : α) (W : World) (C : Nat → Prop), Sp (pre ++ [x]) → I pre C W → Within C W → (∀ k, k < w.heap.size → C k) → w.heap.size ≤ W.heap.size → pre.length < N → body.wpIn (F.inRound l) (n - 1 - 1) P (postSet lo C I Ix (pre ++ [x]) W) (a₁ x) W)
    (hdone : ∀ (D : Nat) (xs : List α) (C : Nat → Prop) (W : World), w.heap.size ≤ D → ¬ C D → S xs → I xs C W → Within C W → (∀ k, k < w.heap.size → C k) → W.heap[D]? = some (.deferred (some [])) → Q .normal { a with defers := { target := .collected D, args := #[] } :: a.defers } W)
    (hstop : ∀ (D : Nat) (c : Code) (pre : List α) (C : Nat → Prop) (W : World), w.heap.size ≤ D → ¬ C D → Sp pre → Ix c pre C W → Within C W → (∀ k, k < w.heap.size → C k) → W.heap[D]? = some (.deferred (some [])) → c.wpIn F n P Q { a with defers := { target := .collected D, args := #[] } :: a.defers } W) :
    (Code.rangeFunc g ps assign body).wpIn F n P Q a w := by
  refine wpIn_rangeFunc fun fn hfn => ?_
  rw [hro]
  obtain ⟨rec, hrec⟩ : ∃ rec : LoopState → Option Code → Loop, rec = fun st pe => { state := st, pending := pe, fn, tmps := a.tmps, params := ps, assign, body, defers := w.heap.size } := ⟨_, rfl⟩
  obtain ⟨W1, hW1⟩ : ∃ W1, (w.alloc (.deferred (some []))).alloc (.loop (rec .ready none)) = W1 := ⟨_, rfl⟩
  have hs1 : W1.heap.size = w.heap.size + 2 := by rw [← hW1]; simp
  have hL1 : W1.heap[w.heap.size + 1]? = some (.loop (rec .ready none)) := by
    have := World.alloc_heap_new (w.alloc (.deferred (some []))) (.loop (rec .ready none)); rw [World.size_alloc] at this; rw [← hW1]; exact this
  have hD1 : W1.heap[w.heap.size]? = some (.deferred (some [])) := by rw [← hW1]; exact (Below.heap_alloc _ _ _ (by simp)).trans (World.alloc_heap_new w _)
  have hm1 : More w W1 := by rw [← hW1]; exact ((Below.refl _ w).alloc (Nat.le_refl _) _).alloc (by simp) _
  refine ⟨w.heap.size + 1, [{ target := .collected w.heap.size, args := #[] }], W1, { target := .fn (.func gf) lb, args := #[.func (.yield (w.heap.size + 1)) #[] #[]] }, W1, gf,
    #[.func (.yield (w.heap.size + 1)) #[] #[]] ++ lb, W1, by rw [← hW1, hrec]; exact run_enterLoop_outer _ _ _ _ _, by simp only [resolve, hg]; simp [go_sem], fun f' hf' => by simp [Target.leads] at hf'; subst hf'; exact hFg, by simp [invoke, go_sem, eg], fun _ => h1, ?_⟩
  obtain ⟨D0, hD0⟩ : ∃ D0, w.heap.size = D0 := ⟨_, rfl⟩
  rw [hD0] at hs1 hL1 hD1 ⊢
  refine (hseq (D0 + 1)
    (fun pre Cs W => ∃ C : Nat → Prop, (∀ k, Cs k ↔ C k ∨ k = D0 ∨ k = D0 + 1) ∧ ¬ C D0 ∧ ¬ C (D0 + 1) ∧ (∀ k, k < D0 → C k) ∧ I pre C W ∧ W.heap[D0 + 1]? = some (.loop (rec .ready none)) ∧ W.heap[D0]? = some (.deferred (some [])))
    (fun pre Cs W => ∃ (C : Nat → Prop) (c : Code), (∀ k, Cs k ↔ C k ∨ k = D0 ∨ k = D0 + 1) ∧ ¬ C D0 ∧ ¬ C (D0 + 1) ∧ (∀ k, k < D0 → C k) ∧ Ix c pre C W ∧ W.heap[D0 + 1]? = some (.loop (rec .done (some c))) ∧ W.heap[D0]? = some (.deferred (some [])))
    W1 (fun k => k < D0 + 2) (More.trans hb0 hm1) (fun k hk => by rw [hs1]; exact hk) (by omega)
    (fun s Cs A A' ⟨C, hc, hn1, hn2, hlt, h, h2, h3⟩ k => ⟨C, hc, hn1, hn2, hlt, hI s C A A' h (k.sub fun j hj => (hc j).2 (.inl hj)), (k.block _ ((hc _).2 (.inr (.inr rfl)))).trans h2, (k.block _ ((hc _).2 (.inr (.inl rfl)))).trans h3⟩)
    (fun s Cs A A' ⟨C, c, hc, hn1, hn2, hlt, h, h2, h3⟩ k => ⟨C, c, hc, hn1, hn2, hlt, hIx c s C A A' h (k.sub fun j hj => (hc j).2 (.inl hj)), (k.block _ ((hc _).2 (.inr (.inr rfl)))).trans h2, (k.block _ ((hc _).2 (.inr (.inl rfl)))).trans h3⟩)
    (fun s Cs A ⟨C, _, _, _, _, h, _⟩ => hKp s C A h) ?_ ⟨fun k => k < D0, fun k => by omega, by omega, by omega, fun _ h => h, hI _ _ _ _ (by rw [hD0] at h0; exact h0) (Stay.of_more hm1 (fun k hk => by rw [hD0]; exact hk)), hL1, hD1⟩).mono ?_
  · rintro pre x W Cs hSpx ⟨C, hc, hn1, hn2, hlt, hi, hl, hk⟩ hwi hsz hlen
    have hy := run_yield (P := P) (args := encs x) hl (by rw [hrec]; exact hps x)
    rw [hrec] at hy
    refine ⟨fn, _, assign, body, hy, roundIn_of_wpIn hfn (hassign _ x W _ ⟨_, run_beginRound hl (by rw [hrec]), ?_⟩)⟩
    clear hy
    have hwiC : Within C W := fun k h => hwi k ((hc k).2 (.inl h))
    obtain ⟨W2, hW2⟩ : ∃ W2, W.putObj (D0 + 1) (.loop { rec .ready none with state := .busy }) = W2 := ⟨_, rfl⟩
    have hs2 : W2.heap.size = W.heap.size := by rw [← hW2]; simp
    have hl2 : W2.heap[D0 + 1]? = some (.loop { rec .ready none with state := .busy }) := by rw [← hW2]; exact World.putObj_heap_same (by omega)
    have hk2 : W2.heap[D0]? = some (.deferred (some [])) := by rw [← hW2]; exact (World.putObj_heap_other (by omega)).trans hk
    have hb2 : ∀ k, k ≠ D0 + 1 → W2.heap[k]? = W.heap[k]? := fun k h => by rw [← hW2]; exact World.putObj_heap_other h
    have ho2 : W2.os = W.os ∧ W2.tape = W.tape ∧ W2.output = W.output := by rw [← hW2]; exact ⟨rfl, rfl, rfl⟩
    have hi2 : I pre C W2 := by rw [← hW2]; exact hI _ _ _ _ hi (Stay.putObj _ _ _ hn2)
    have fin : ∀ (L : Nat) (jump : Option Code) (W3 : World) (C' : Nat → Prop), L ≤ D0 → Turn L C C' W2 W3 → ∃ W4, (Instr.endRound (D0 + 1) jump).run P W3 = .ok (.bool jump.isNone) W4 ∧ W4.heap[D0 + 1]? = some (.loop (rec (if jump.isNone then .ready else .done) jump)) ∧ W4.heap[D0]? = some (.deferred (some [])) ∧ Stay C' W3 W4 ∧ Turn L Cs (fun k => C' k ∨ k = D0 ∨ k = D0 + 1) W W4 ∧ ¬ C' D0 ∧ ¬ C' (D0 + 1) ∧ (∀ k, k < D0 → C' k) := fun L jump W3 C' hL h3 => by
      have hl3 := (h3.block _ (by omega) (.inr hn2)).trans hl2
      have hk3 := (h3.block _ (by omega) (.inr hn1)).trans hk2
      have hr := run_endRound (P := P) jump hl3
      have hlt3 : D0 + 1 < W3.heap.size := by have := h3.size; omega
      have hn1' := h3.off hn1 (by omega)
      have hn2' := h3.off hn2 (by omega)
      refine ⟨_, hr, by rw [hrec]; exact World.putObj_heap_same hlt3, (World.putObj_heap_other (by omega)).trans hk3, Stay.putObj _ _ _ hn2', ?_, hn1', hn2', fun k hk => h3.on (hlt k hk)⟩
      refine ⟨h3.os.trans ho2.1, h3.tape.trans ho2.2.1, h3.output.trans ho2.2.2, by have := h3.size; simp; omega, fun k hk hd => ?_, fun k => ?_⟩
      · have hne : k ≠ D0 + 1 := fun e => by
          subst e
          rcases hd with h | h
          · omega
          · exact h ((hc _).2 (.inr (.inr rfl)))
        rw [World.putObj_heap_other hne, h3.block k (by omega) (hd.imp id fun hn hC => hn ((hc k).2 (.inl hC))), hb2 k hne]
      · rw [hc k, h3.more k, hs2]
        simp only [World.putObj, Array.size_setIfInBounds]
        constructor
        · rintro ((h | h) | h)
          · exact .inl (.inl h)
          · exact .inr h
          · exact .inl (.inr h)
        · rintro ((h | h) | h)
          · exact .inl (.inl h)
          · exact .inr h
          · exact .inl (.inr h)
    rw [hW2]
    refine wpIn_mono (hbody _ pre x W2 C hSpx hi2 (hwiC.more (by omega)) (by rw [hD0]; exact hlt) (by omega) hlen) ?_
    rintro e a3 W3 hp
    cases e with
    | normal =>
      obtain ⟨C', ht, hx⟩ := hp
      obtain ⟨W4, hr, hl4, hk4, hb4, ho4, n1, n2, hl5⟩ := fin lo none W3 C' (by omega) ht
      exact ⟨_, _, hr, _, .inl ⟨rfl, ⟨C', fun _ => Iff.rfl, n1, n2, hl5, hI _ _ _ _ hx hb4, hl4, hk4⟩, ho4⟩⟩
    | ret =>
      obtain ⟨C', ht, hx⟩ := hp
      obtain ⟨W4, hr, hl4, hk4, hb4, ho4, n1, n2, hl5⟩ := fin 0 (some .ret) W3 C' (by omega) ht
      exact ⟨_, _, hr, _, .inr ⟨rfl, ⟨C', .ret, fun _ => Iff.rfl, n1, n2, hl5, hIx _ _ _ _ _ hx hb4, hl4, hk4⟩, ho4⟩⟩
    | exit id =>
      obtain ⟨C', ht, hx⟩ := hp
      obtain ⟨W4, hr, hl4, hk4, hb4, ho4, n1, n2, hl5⟩ := fin 0 (some (.exit id)) W3 C' (by omega) ht
      exact ⟨_, _, hr, _, .inr ⟨rfl, ⟨C', .exit id, fun _ => Iff.rfl, n1, n2, hl5, hIx _ _ _ _ _ hx hb4, hl4, hk4⟩, ho4⟩⟩
    | goto t =>
      obtain ⟨C', ht, hx⟩ := hp
      obtain ⟨W4, hr, hl4, hk4, hb4, ho4, n1, n2, hl5⟩ := fin 0 (some (.goto t)) W3 C' (by omega) ht
      exact ⟨_, _, hr, _, .inr ⟨rfl, ⟨C', .goto t, fun _ => Iff.rfl, n1, n2, hl5, hIx _ _ _ _ _ hx hb4, hl4, hk4⟩, ho4⟩⟩
    | panic ch => exact hp.elim
    | outgrown => exact hp.elim
  · rintro e W2 ⟨⟨v, rfl⟩, (⟨xs, Cs, hS, ⟨C, hc, hn1, hn2, hlt, hi, hl, hk⟩, hwi⟩ | ⟨pre, Cs, hSp, ⟨C, c, hc, hn1, hn2, hlt, hi, hl, hk⟩, hwi⟩)⟩
    · refine ⟨none, _, by have := run_endLoop (P := P) hl (by rw [hrec]; simp); rw [hrec] at this; exact this, ?_⟩
      rw [hD0] at hdone
      exact hdone _ xs C _ (Nat.le_refl _) hn1 hS (hI _ _ _ _ hi (Stay.putObj _ _ _ hn2)) (fun k h => by simp; exact hwi k ((hc k).2 (.inl h))) hlt ((World.putObj_heap_other (by omega)).trans hk)
    · refine ⟨some c, _, by have := run_endLoop (P := P) hl (by rw [hrec]; simp); rw [hrec] at this; exact this, ?_⟩
      rw [hD0] at hstop
      exact hstop _ c pre C _ (Nat.le_refl _) hn1 hSp (hIx _ _ _ _ _ hi (Stay.putObj _ _ _ hn2)) (fun k h => by simp; exact hwi k ((hc k).2 (.inl h))) hlt ((World.putObj_heap_other (by omega)).trans hk)

/-- The way out of a function that has such marks, none of them the caller's: each block is shut. -/
theorem leaves_set {fn : Func} {tmps : Array Value} {R : Ending → World → Prop} {B : Nat} {C : Nat → Prop} : ∀ {ds : List Deferred} {w : World}, Marks B w ds → (∀ d ∈ ds, ∀ D, d.target = .collected D → ¬ C D) → (∀ w', Stay C w w' → Below B w w' → LeavesIn F n P fn tmps R [] .returning w') → LeavesInM F n P fn tmps R ds .returning w := by
  intro ds
  induction ds with
  | nil => intro w _ _ h; exact h w (Stay.refl _ _) (Below.refl _ _)
  | cons d ds ih =>
    intro w hM hC h
    cases hM with
    | cons hB hD hne hM =>
      refine ⟨by simp, .inl ⟨_, _, rfl, run_takeDeferred hD, ih (hM.kept fun D' _ ⟨d, hd, he⟩ h' => ?_) (fun d hd => hC d (List.mem_cons_of_mem _ hd)) fun w' hw' hb' => h w' ((Stay.putObj _ _ _ (hC _ List.mem_cons_self _ rfl)).trans hw') ((below_putObj _ _ _ _ hB).trans hb')⟩⟩
      exact (World.putObj_heap_other (fun e => hne d hd (by rw [he, e]))).trans h'
theorem Marks.turn {B lo : Nat} {C C' : Nat → Prop} {w w' : World} {ds : List Deferred} (h : Marks B w ds) (k : Turn lo C C' w w') (hn : ∀ d ∈ ds, ∀ D, d.target = .collected D → ¬ C D) : Marks B w' ds :=
  h.kept fun D _ ⟨d, hd, he⟩ h' => (k.block D (Array.getElem?_eq_some_iff.1 h').1 (.inr (hn d hd D he))).trans h'
theorem Marks.stay {B : Nat} {C : Nat → Prop} {w w' : World} {ds : List Deferred} (h : Marks B w ds) (k : Stay C w w') (hn : ∀ d ∈ ds, ∀ D, d.target = .collected D → C D) : Marks B w' ds :=
  h.kept fun D _ ⟨d, hd, he⟩ h' => (k.block D (hn d hd D he)).trans h'

end Go.Proofs.Ytiiflegfbieblaa
