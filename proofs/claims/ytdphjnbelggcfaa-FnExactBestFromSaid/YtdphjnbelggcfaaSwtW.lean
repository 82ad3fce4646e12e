/-
  SwapsToBest of the program: a goto goes back to the search behind each swap. Used by the claims on chapter 8.
-/
import Derived.Test.YtdphjnbelggcfaaSwtL
import Derived.Test.YtdphjnbelggcfaaSwpS
import Derived.Test.YtdphjnbelggcfaaListW
import Derived.Laws.CopyOwn
import Derived.ScopeJumps
import Derived.WalkMore
namespace Go.Proofs.Ytdphjnbelggcfaa
open Go.RowKit
set_option linter.unusedVariables false

/-- A row of texts of the call's own. -/
structure RowT (wr : World) (B n : Nat) (ys : List ByteArray) : Prop where
  row : wr.rowIs B 9 n (fun k => .string (ys.getD k ⟨#[]⟩))
  len : ys.length = n
theorem RowT.src {wr : World} {B n : Nat} {ys : List ByteArray} (h : RowT wr B n ys) : Src wr (some ⟨B, 0, none⟩) B 0 ys :=
  ⟨fun _ => rfl, fun j x hx => by
    have hj : j < ys.length := (List.getElem?_eq_some_iff.1 hx).1
    have := h.row.cell (i := j) (by rw [← h.len]; exact hj)
    rw [List.getD_eq_getElem?_getD, hx] at this
    rw [Nat.zero_add]; exact this⟩
theorem RowT.below {w w' : World} {B n : Nat} {ys : List ByteArray} (h : RowT w B n ys) (hb : Below w.heap.size w w') : RowT w' B n ys := ⟨h.row.of_block (hb.block B h.row.lt), h.len⟩
theorem RowT.sw {wr : World} {B n i j : Nat} {ys : List ByteArray} (h : RowT wr B n ys) (hi : i < n) (hj : j < n) :
    RowT ((wr.setCell ⟨B, i, none⟩ (.string (ys.getD j ⟨#[]⟩))).setCell ⟨B, j, none⟩ (.string (ys.getD i ⟨#[]⟩))) B n (sw2 ys i j) :=
  ⟨((h.row.set i _).set j _).congr fun k hk => by
    have hl := h.len
    rw [sw2_at (by omega) (by omega) (by omega)]
    by_cases e1 : k = j
    · rw [if_pos e1, if_pos e1]
    · rw [if_neg e1, if_neg e1]
      by_cases e2 : k = i
      · rw [if_pos e2, if_pos e2]
      · rw [if_neg e2, if_neg e2], by rw [sw2_len]; exact h.len⟩
theorem rowT_of_cells {w : World} {B : Nat} {xs : List ByteArray} (h : w.heap[B]? = some (.cells (xs.map Value.string).toArray 9 (0, 0))) : RowT w B xs.length xs :=
  ⟨⟨_, h, by simp, fun i hi => by simp [List.getD_eq_getElem?_getD, hi]⟩, rfl⟩
/-- What holds at the search: so many swaps, and these marks. -/
structure SwJ (w wr : World) (B b o g1 : Nat) (xs : List ByteArray) (m : List Nat) (k f R : Nat) (ys : List ByteArray) : Prop where
  row : RowT wr B xs.length ys
  below : Below w.heap.size w wr
  mks : ∀ y ∈ ys, marksL (bl y) = true
  cost : cst (uAt m) (tAt ys) ys.length ≤ f
  cnt : k + swF (uAt m) f ys = R

end Go.Proofs.Ytdphjnbelggcfaa
