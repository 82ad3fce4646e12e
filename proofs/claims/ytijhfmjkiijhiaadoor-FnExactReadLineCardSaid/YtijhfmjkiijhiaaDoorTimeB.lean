/-
  TimeOfSignal, the program's and the model's: both answer alike. Used by the claims on chapter 2.
-/
import Derived.Test.YtijhfmjkiijhiaaDoorSigB
import Derived.Test.YtijhfmjkiijhiaaDoorMkTimeW
namespace Go.Proofs.YtijhfmjkiijhiaaDoor
open Go.RowKit
set_option linter.unusedVariables false

def twB (w : List ByteArray) : Nat := (w.map (fun x => tml (bl x))).sum + 3 * (w.length - 1)
def twsB (ws : List (List ByteArray)) : Nat := (ws.map twB).sum + 7 * (ws.length - 1)
theorem twsB_L (s : ByteArray) : twsB (wordsB s) = tmWs (wordsL (bl s)) := by
  rw [← wordsB_L]
  unfold twsB tmWs
  rw [List.map_map, List.length_map]
  congr 2
  exact List.map_congr_left fun w _ => by simp [twB, tmW, Function.comp_def]
theorem twB_take (w : List ByteArray) (i : Nat) (x : ByteArray) (h : w[i]? = some x) : twB (w.take (i + 1)) = twB (w.take i) + (if i = 0 then 0 else 3) + tml (bl x) := by
  have hl : i < w.length := (List.getElem?_eq_some_iff.1 h).1
  unfold twB
  rw [List.take_add_one, h, List.length_append, List.length_take, Nat.min_eq_left (Nat.le_of_lt hl)]
  by_cases h0 : i = 0
  · subst h0; simp
  · rw [if_neg h0]; simp; omega
theorem twsB_take (ws : List (List ByteArray)) (k : Nat) (y : List ByteArray) (h : ws[k]? = some y) : twsB (ws.take (k + 1)) = twsB (ws.take k) + (if k = 0 then 0 else 7) + twB y := by
  have hl : k < ws.length := (List.getElem?_eq_some_iff.1 h).1
  unfold twsB
  rw [List.take_add_one, h, List.length_append, List.length_take, Nat.min_eq_left (Nat.le_of_lt hl)]
  by_cases h0 : k = 0
  · subst h0; simp
  · rw [if_neg h0]; simp; omega
theorem tml_le (l : Bs) : tml l ≤ 4 * l.length := by
  have := sums_le l
  unfold sums at this
  unfold tml
  omega

end Go.Proofs.YtijhfmjkiijhiaaDoor
