/-
  AddLetter, the program's and the model's: both answer alike; the model's l2Own. Used by the claims on chapter 2.
-/
import Derived.Test.YtdphjnbelggcfaaIsTableB
import Derived.Test.YtdphjnbelggcfaaShelf
import Derived.Test.YtdphjnbelggcfaaMarkT
namespace Go.Proofs.Ytdphjnbelggcfaa
open Go.RowKit
set_option linter.unusedVariables false

/-- A row of texts of one's own, as a list in memory. -/
theorem row_src {w : World} {base : Nat} {v : Value} {ys : List ByteArray} (h : w.ownsRow base 9 1 v ys.length (ys.map Value.string)) (h0 : 0 < ys.length) : ∃ g cap, v = .slice (some ⟨g, 0, none⟩) ys.length cap ∧ base ≤ g ∧ g < w.heap.size ∧ Src w (some ⟨g, 0, none⟩) g 0 ys ∧ Open w g ys.length := by
  have h' := h
  rcases h.2 with ⟨_, h1⟩ | ⟨g, cap, cur, rfl, hg, hh, _⟩
  · omega
  · refine ⟨g, cap, rfl, hg, (Array.getElem?_eq_some_iff.1 hh).1, ⟨fun _ => rfl, fun j x hx => ?_⟩, fun j _ => by simp [World.frozen?, hh]⟩
    have := h'.cells (g := g) rfl j (.string x) (by simp [hx])
    rw [Addr.add_lit] at this
    exact this
theorem grown_keep {w w' : World} {p : Addr} {v : Value} {q : Option Nat} (h : w.cell? p = some v) (hg : w.grownBy w' q) (hne : some p.block ≠ q) : w'.cell? p = some v :=
  (World.cell?_of_block (w := w) (a := p) (hg.block p.block (World.block_lt_of_cell? _ _ h) hne)).trans h
theorem boxed_grown {w w' : World} {g : Nat} {t : TypeId} {v : Value} {q : Option Nat} (h : Boxed w g t v) (hg : w.grownBy w' q) (hne : some g ≠ q) : Boxed w' g t v := h.kept hg hne

def addR (xs : List ByteArray) (m : ByteArray) : Bool := tableB xs && tableB (xs ++ [m])
def addT (xs : List ByteArray) (m : ByteArray) : List ByteArray := if addR xs m = true then xs ++ [m] else []
theorem addT_len (xs : List ByteArray) (m : ByteArray) : (addT xs m).length ≤ 10 := by
  unfold addT
  split
  · next h =>
    unfold addR at h
    rw [Bool.and_eq_true] at h
    exact ((tableB_iff _).1 h.2).1.2
  · simp
theorem add_no {xs : List ByteArray} {m : ByteArray} (h : addR xs m = false) : addT xs m = [] := by unfold addT; rw [if_neg (by rw [h]; simp)]

end Go.Proofs.Ytdphjnbelggcfaa
