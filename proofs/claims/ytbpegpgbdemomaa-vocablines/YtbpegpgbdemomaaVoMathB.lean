/-
  The words of a text, line by line, plainly.
-/
import Derived.Test.YtbpegpgbdemomaaVoE
namespace Go.Proofs.Ytbpegpgbdemomaa
open Go.RowKit

theorem numL_take (L : List (List UInt8)) {c : Nat} (h : c ≤ L.length) : (numL L c).map Prod.snd = L.take c := by
  have h1 := numL_snd (L.take c)
  rw [List.length_take, Nat.min_eq_left h] at h1
  rw [← h1]
  unfold numL
  rw [List.map_map, List.map_map]
  refine List.map_congr_left fun j hj => ?_
  have := List.mem_range.1 hj
  simp only [Function.comp]
  rw [getD_take this]
theorem lw_app (A B : List (List UInt8)) : lw (A ++ B) = lw A ++ lw B := by simp [lw]
/-- Behind k lines and r words of the next one. -/
def cur (pre : List (Int × List UInt8)) (x : List UInt8) (r : Nat) : List (List UInt8) := putAll mk3 (lw (pre.map Prod.snd) ++ (wordsOf x).take r)
theorem cur_zero (pre : List (Int × List UInt8)) (x : List UInt8) : cur pre x 0 = putAll mk3 (lw (pre.map Prod.snd)) := by simp [cur]
theorem cur_full (pre : List (Int × List UInt8)) (x : Int × List UInt8) : cur pre x.2 (wordsOf x.2).length = putAll mk3 (lw ((pre ++ [x]).map Prod.snd)) := by
  unfold cur
  rw [List.take_length, List.map_append, List.map_singleton, lw_snoc]
theorem cur_next (pre : List (Int × List UInt8)) (x : List UInt8) {r : Nat} (h : r < (wordsOf x).length) : cur pre x (r + 1) = putN (cur pre x r) ((wordsOf x).getD r []) := by
  unfold cur
  rw [take_next h, ← List.append_assoc, putAll_snoc]
theorem cur_ge {L : List (List UInt8)} {pre : List (Int × List UInt8)} {x : Int × List UInt8} {c : Nat} (hc : c ≤ L.length) (h : pre ++ [x] = numL L c) (r : Nat) : (cur pre x.2 r).length ≤ (putAll mk3 (lw L)).length := by
  have h1 := numL_take L hc
  rw [← h, List.map_append, List.map_singleton] at h1
  have h2 : lw L = (lw (pre.map Prod.snd) ++ (wordsOf x.2).take r) ++ ((wordsOf x.2).drop r ++ lw (L.drop c)) := by
    have hd : lw L = lw (L.take c) ++ lw (L.drop c) := by rw [← lw_app, List.take_append_drop]
    rw [hd, ← h1, lw_snoc, List.append_assoc, List.append_assoc, ← List.append_assoc ((wordsOf x.2).take r), List.take_append_drop]
  unfold cur
  rw [h2, putAll_app mk3 _ ((wordsOf x.2).drop r ++ lw (L.drop c))]
  exact putAll_ge _ _
theorem cur_nodup (pre : List (Int × List UInt8)) (x : List UInt8) (r : Nat) : (cur pre x r).Nodup := putAll_nodup _ mk3_nodup
/-- No room for a word that is not there. -/
theorem cur_over {L : List (List UInt8)} {pre : List (Int × List UInt8)} {x : Int × List UInt8} {c : Nat} (hc : c ≤ L.length) (h : pre ++ [x] = numL L c) {r : Nat} (hr : r < (wordsOf x.2).length) (hn : (wordsOf x.2).getD r [] ∉ cur pre x.2 r) : (cur pre x.2 r).length < (putAll mk3 (lw L)).length := by
  have h1 := cur_ge hc h (r + 1)
  rw [cur_next pre x.2 hr, putN_new hn, List.length_append, List.length_singleton] at h1
  omega
end Go.Proofs.Ytbpegpgbdemomaa
