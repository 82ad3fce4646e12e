/-
  Contracts of the program's piecesOf and IsSignal: the pieces of a signal. Used by the claims on chapter 2.
-/
import Derived.Test.YthkafalpjokfeaaSignW
import Derived.Test.YthkafalpjokfeaaSplitW
import Derived.Test.YthkafalpjokfeaaListW
namespace Go.Proofs.Ythkafalpjokfeaa
open Go.RowKit
set_option linter.unusedVariables false

/-- A contract's value, said otherwise. -/
theorem val_eqS {P : Program} {f : FuncId} {args : Array Value} {w : World} {v v' : Value} {R : World → Prop} (h : Calls P f args w fun e w' => e = .returned v ∧ R w') (e : v = v') : Calls P f args w fun e w' => e = .returned v' ∧ R w' := e ▸ h

theorem row_iter {w : World} {base : Nat} {e : TypeId} {size : Nat} {v : Value} {n : Nat} {xs : List Value} (h : w.ownsRow base e size v n xs) {k : Nat} {s : ByteArray} {p : Nat} (hk : w.heap[k]? = some (.stringIter s p)) (p' : Nat) : (w.iterAt k s p').ownsRow base e size v n xs := by
  obtain ⟨h1, h2⟩ := h
  rcases h2 with h2 | ⟨g, cap, cur, a, b, c, d⟩
  · exact ⟨h1, .inl h2⟩
  · refine ⟨h1, .inr ⟨g, cap, cur, a, b, ?_, d⟩⟩
    rw [Lib.iterAt_other _ _ _ _ _ (by rintro rfl; rw [hk] at c; cases c)]
    exact c
theorem row_ne {w : World} {base : Nat} {e : TypeId} {size : Nat} {v : Value} {n : Nat} {xs : List Value} (h : w.ownsRow base e size v n xs) {k : Nat} {s : ByteArray} {p : Nat} (hk : w.heap[k]? = some (.stringIter s p)) : v.ownBlock ≠ some k := by
  obtain ⟨h1, h2⟩ := h
  rcases h2 with ⟨rfl, _⟩ | ⟨g, cap, cur, rfl, b, c, d⟩
  · simp [Value.ownBlock]
  · intro e
    simp [Value.ownBlock] at e
    subst e
    rw [hk] at c
    cases c
theorem iter_below {w w' : World} {k : Nat} {s : ByteArray} {p : Nat} (h : w.heap[k]? = some (.stringIter s p)) (hb : Below w.heap.size w w') : w'.heap[k]? = some (.stringIter s p) :=
  (hb.block k (Array.getElem?_eq_some_iff.1 h).1).trans h
/-- An iterator beside a row that an append has grown. -/
theorem iter_grown {w w1 : World} {o : Obj} {base : Nat} {e : TypeId} {size : Nat} {v : Value} {n : Nat} {xs : List Value} (h : w.ownsRow base e size v n xs) {k : Nat} {s : ByteArray} {p : Nat} (hk : w.heap[k]? = some (.stringIter s p)) (hg : (w.alloc o).grownBy w1 v.ownBlock) : w1.heap[k]? = some (.stringIter s p) := by
  have hlt : k < w.heap.size := (Array.getElem?_eq_some_iff.1 hk).1
  rw [hg.block k (by simp; omega) (fun e => row_ne h hk e.symm), Below.heap_alloc _ _ _ hlt]
  exact hk

def tx (ps : List Bs) : List Value := ps.map fun x => Value.string (ba x)
theorem tx_len (ps : List Bs) : (tx ps).length = ps.length := by simp [tx]
theorem tx_snoc (ps : List Bs) (x : Bs) : tx (ps ++ [x]) = tx ps ++ [.string (ba x)] := by simp [tx]
theorem ext_ba (s : ByteArray) (q p : Nat) : s.extract q p = ba (((bl s).take p).drop q) := by
  apply bl_inj
  rw [bl_ba]
  exact ext_list s q p
theorem bl_ext (s : ByteArray) (q p : Nat) : bl (s.extract q p) = ((bl s).take p).drop q := ext_list s q p

def PiecePost (s : ByteArray) (w : World) (e : Ending) (w' : World) : Prop :=
  ∃ v, e = .returned (.tuple #[v, .bool (pieces (bl s)).isSome]) ∧ (∀ ps, pieces (bl s) = some ps → w'.ownsRow w.heap.size 9 1 v ps.length (tx ps)) ∧ Below w.heap.size w w'
theorem piece_none {s : ByteArray} {w w' : World} (h : pieces (bl s) = none) (hb : Below w.heap.size w w') : PiecePost s w (.returned (.tuple #[.slice none 0 0, .bool false])) w' := ⟨_, by rw [h]; rfl, fun ps hp => by (rw [h] at hp; cases hp), hb⟩
theorem fin_gap {ps : List Bs} {cur r : Bs} {c : UInt8} (hg : c = 32 ∨ c = 47) : fin ps cur (c :: r) = if marksL cur = true ∧ ps.length < 12 then fin (ps ++ [cur] ++ (if c = 47 then [[47]] else [])) [] r else none := by
  rw [fin]
  have h1 : isMk c = false := by rcases hg with rfl | rfl <;> decide
  have h2 : (c == 32 || c == 47) = true := by rcases hg with rfl | rfl <;> decide
  rw [h1, h2]
  by_cases h : marksL cur = true ∧ ps.length < 12
  · rw [if_neg (by simp), if_pos (by simp [h.1, h.2]), if_pos h]
    by_cases h3 : c = 47 <;> simp [h3]
  · rw [if_neg (by simp), if_neg (by simpa using h), if_neg h]
theorem fin_end {ps : List Bs} {cur : Bs} : fin ps cur [] = if marksL cur = true ∧ ps.length < 12 then some (ps ++ [cur]) else none := by
  rw [fin]
  by_cases h : marksL cur = true ∧ ps.length < 12
  · rw [if_pos (by simp [h.1, h.2]), if_pos h]
  · rw [if_neg (by simpa using h), if_neg h]

end Go.Proofs.Ythkafalpjokfeaa
