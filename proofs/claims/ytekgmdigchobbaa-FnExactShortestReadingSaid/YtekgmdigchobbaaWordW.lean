/-
  signalOfWord (the program's): the marks of the letters of a word, with gaps. Used by the claims on chapter 2.
-/
import Derived.Test.YtekgmdigchobbaaPieceW
import Derived.Test.YtekgmdigchobbaaMsgW
import Derived.Test.YtekgmdigchobbaaShelf
namespace Go.Proofs.Ytekgmdigchobbaa
open Go.RowKit
set_option linter.unusedVariables false

def lettersL (T : List Bs) (x : Bs) : List Bs := x.map (look T)
def wordL (T : List Bs) (x : Bs) : Bs := Lib.join (x.map (look T)) [32]

theorem join_le (b : UInt8) : ∀ xs : List Bs, (Lib.join xs [b]).length ≤ (xs.map (fun x => x.length + 1)).sum
  | [] => by simp [Lib.join]
  | [x] => by simp [Lib.join_one]
  | x :: y :: r => by
    have := join_le b (y :: r)
    rw [join_cons2, List.length_append, List.length_cons]
    simp only [List.map_cons, List.sum_cons] at this ⊢
    omega
theorem iterAt_cell (w : World) (k : Nat) (s : ByteArray) (p q : Nat) {v : Addr} (h : w.heap[k]? = some (.stringIter s p)) : (w.iterAt k s q).cell? v = w.cell? v := by
  unfold World.cell?
  by_cases e : v.block = k
  · rw [e, Lib.iterAt_heap w k s p q h, h]
  · rw [Lib.iterAt_other _ _ _ _ _ e]
theorem cell_grown {w w1 : World} {o : Obj} {base : Nat} {e : TypeId} {size : Nat} {v : Value} {n : Nat} {xs : List Value} (h : w.ownsRow base e size v n xs) {p : Addr} {u : Value} (hp : w.cell? p = some u) (hg : (w.alloc o).grownBy w1 v.ownBlock) (hne : v.ownBlock ≠ some p.block) : w1.cell? p = some u := by
  have hlt := World.block_lt_of_cell? _ _ hp
  unfold World.cell? at hp ⊢
  rw [hg.block p.block (by simp; omega) (fun e => hne e.symm), Below.heap_alloc _ _ _ hlt]
  exact hp
theorem look_bl (xs : List ByteArray) (i : Nat) (x : ByteArray) (h : xs[i]? = some x) (u : UInt8) (hu : u.toNat = 97 + i) : look (xs.map bl) u = bl x := by
  unfold look
  rw [hu, Nat.add_sub_cancel_left, List.getD_eq_getElem?_getD, List.getElem?_map, h]; rfl

end Go.Proofs.Ytekgmdigchobbaa
