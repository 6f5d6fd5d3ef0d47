/-
  A row in a box to which the rounds of a range over a function append.
-/
import Derived.Test.YtiiflegfbieblaaRangeSet
import Derived.Maps.OwnIn
namespace Go.Proofs.Ytiiflegfbieblaa
open Go.RowKit Go.Shelf
attribute [local go_sem] Oper.semAt_some

/-- An append to a row of the call's own, as one operation of a region. -/
theorem opIn_append_at {F : Fence} {nF : Nat} {P : Program} {ops : Array Oper} {Q : Exit → Act → World → Prop} {k : Nat} {o : Oper} {a : Act} {w : World} {K : Act → World → Prop} (hop : ops[k]? = some o) (hgd : o.guard = none) (s x : Operand) (t : TypeId)
    (ho : o.op = .call { callee := .builtin .append, args := #[s, x], argTypes := #[t, t] })
    (base : Nat) (e : TypeId) (i : TypeInfo) (z : Value) (size bytes : Nat) (ht : P.underlying t = some (.slice e)) (hi : P.info? e = some i) (hz : i.zero = some z)
    (hsize : i.size = size) (hby : i.bytes = bytes) (hzs : z.cells.size = size) (hsz : 0 < size)
    (v : Value) (n : Nat) (xs : List Value) (hs : a.eval s = v) (hown : w.ownsRow base e size v n xs)
    (ad : Addr) (m c : Nat) (news : List Value) (hx : a.eval x = .slice (some ad) m c) (hl : news.length = m * size) (hnews : ∀ j u, news[j]? = some u → w.cell? (ad.add j) = some u) (h1 : ∀ u ∈ news, u.oneCell' = true)
    (h63 : n + m ≤ maxLen) (hbytes : (n + m) * bytes ≤ 140737488355328) (hbase : base ≤ w.heap.size)
    (h : ∀ v' w', w'.ownsRow base e size v' (n + m) (xs ++ news) → w.grownBy w' v.ownBlock → (v'.ownBlock = v.ownBlock ∨ v'.ownBlock = some w.heap.size) → K (a.put o.dst v') w') :
    wpOpIn F nF P ops Q k K a w := by
  refine wpOpIn_step hop (fun K' hK => ?_)
  rw [if_pos (by simp [Region.wanted, hgd])]
  obtain ⟨v', w', hr, h2, h3, _, h5⟩ := run_append_own_at (P := P) w base t o.type e i z size bytes ht hi hz hsize hby hzs hsz v n xs hown ad m c news hl hnews h1 h63 hbytes hbase
  unfold Oper.wpIn
  refine ⟨by simp [Oper.about, ho, resolve, Target.leads, Sem.run_pure], ?_⟩
  rw [Oper.semAt_plain F _ _ (by rw [ho]; intro c hc'; cases hc')]
  simp [execOp, ho, resolve, invoke, builtin, hs, hx, hr, Result.andThen]
  exact hK _ _ (h v' w' h2 h3 h5)

theorem own_stay {C : Nat → Prop} {w w' : World} {base : Nat} {e : TypeId} {size : Nat} {v : Value} {n : Nat} {xs : List Value} (h : w.ownsRow base e size v n xs) (hB : ∀ k, v.ownBlock = some k → C k) (k : Stay C w w') : w'.ownsRow base e size v n xs :=
  ⟨h.1, h.2.imp id fun ⟨g, cap, cur, hv, h1, hg, rest⟩ => ⟨g, cap, cur, hv, h1, (k.block g (hB g (by rw [hv]; rfl))).trans hg, rest⟩⟩
/-- The box B holds a row that lies from block 'top' on, in blocks of the set. -/
def BoxRow (t e : TypeId) (B top : Nat) (xs : List Value) (E : Nat → Prop) (V : World) : Prop :=
  ∃ v, Boxed V B t v ∧ V.ownsRow B e 1 v xs.length xs ∧ ∀ j, v.ownBlock = some j → E j ∧ top ≤ j
theorem BoxRow.stay {t e : TypeId} {B top : Nat} {xs : List Value} {E : Nat → Prop} {V V' : World} (h : BoxRow t e B top xs E V) (k : Stay E V V') (hB : E B) : BoxRow t e B top xs E V' := by
  obtain ⟨v, h1, h2, h3⟩ := h
  exact ⟨v, k.boxed h1 hB, own_stay h2 (fun j hj => (h3 j hj).1) k, h3⟩
theorem BoxRow.wider {t e : TypeId} {B top : Nat} {xs : List Value} {E E' : Nat → Prop} {V : World} (h : BoxRow t e B top xs E V) (k : ∀ j, E j → E' j) : BoxRow t e B top xs E' V := by
  obtain ⟨v, h1, h2, h3⟩ := h
  exact ⟨v, h1, h2, fun j hj => ⟨k j (h3 j hj).1, (h3 j hj).2⟩⟩
theorem BoxRow.new {t e : TypeId} {B top : Nat} {E : Nat → Prop} {V : World} (h : Boxed V B t (.slice none 0 0)) : BoxRow t e B top [] E V := ⟨_, h, World.ownsRow_nil _ _ _ _, fun j hj => by simp [Value.ownBlock] at hj⟩
/-- One more is appended, and the slice is stored. -/
theorem BoxRow.app {lo B top : Nat} {t e : TypeId} {xs : List Value} {x v v2 : Value} {E : Nat → Prop} {V Va w2 : World} (hb : Boxed V B t v) (hv : ∀ j, v.ownBlock = some j → E j ∧ top ≤ j) (hBt : B < top) (htV : top ≤ V.heap.size) (hEB : E B) (hlo : lo ≤ B)
    (hm : More V Va) (hown2 : w2.ownsRow B e 1 v2 (xs.length + 1) (xs ++ [x])) (hg2 : Va.grownBy w2 v.ownBlock) (hat2 : v2.ownBlock = v.ownBlock ∨ v2.ownBlock = some Va.heap.size) :
    Boxed w2 B t v ∧ BoxRow t e B top (xs ++ [x]) (fun k => E k ∨ (V.heap.size ≤ k ∧ k < w2.heap.size)) (w2.setCell ⟨B, 0, none⟩ v2) ∧
      Turn lo E (fun k => E k ∨ (V.heap.size ≤ k ∧ k < w2.heap.size)) V (w2.setCell ⟨B, 0, none⟩ v2) ∧
      (∀ (j : Nat) (t' : TypeId) (u : Value), Boxed V j t' u → j ≠ B → j < top → Boxed (w2.setCell ⟨B, 0, none⟩ v2) j t' u) := by
  have hs1 := hm.size
  have hs2 := hg2.size
  have hbx : ∀ (j : Nat) (t' : TypeId) (u : Value), j < top → Boxed V j t' u → Boxed w2 j t' u := fun j t' u hj hbb => by
    have hl := hbb.lt
    refine (hg2.block j (by omega) (fun e => ?_)).trans ((hm.block j hl).trans hbb)
    have := (hv j e.symm).2
    omega
  have hv2 : ∀ j, v2.ownBlock = some j → (E j ∨ (V.heap.size ≤ j ∧ j < w2.heap.size)) ∧ top ≤ j := fun j hj => by
    have hl := hown2.lt j hj
    rcases hat2 with h | h
    · rw [h] at hj
      exact ⟨.inl (hv j hj).1, (hv j hj).2⟩
    · rw [h] at hj
      have : Va.heap.size = j := by simpa using hj
      exact ⟨.inr ⟨by omega, hl.2⟩, by omega⟩
  have hB2 := hbx B t v hBt hb
  refine ⟨hB2, ⟨v2, hB2.set _, by rw [List.length_append, List.length_singleton]; exact hown2.kept (grownBy_setCell' w2 B _) (by
      cases hv3 : v2.ownBlock with
      | none => exact .inl rfl
      | some j => exact .inr (fun e => by have h5 := (hv2 j hv3).2; have h6 : j = B := Option.some.inj e; omega)), hv2⟩, ?_, fun j t' u hbb hne hj => (hbx j t' u hj hbb).other hne _⟩
  have hT : Turn lo E (fun k => E k ∨ (V.heap.size ≤ k ∧ k < w2.heap.size)) V w2 := ⟨hg2.os.trans hm.os, hg2.tape.trans hm.tape, hg2.output.trans hm.output, by omega, fun k hk hd => by
    rw [hg2.block k (by omega) (fun e => ?_), hm.block k hk]
    have h := hv k e.symm
    rcases hd with h1 | h1
    · omega
    · exact h1 h.1, fun _ => Iff.rfl⟩
  exact hT.setCell (p := ⟨B, 0, none⟩) hlo (.inl hEB) _

end Go.Proofs.Ytiiflegfbieblaa
