/-
  What a walk carries of blocks: boxes of one cell, open cells, what grows. Used by the claims on lists.
-/
import Derived.Test.YthkafalpjokfeaaRows
import Derived.WalkKit
import Derived.Below
import Derived.Deep.QuietTactic
import Derived.BigQuiet
import Derived.Handy
import Derived.Laws.Rows
import Derived.Laws.ResultCell
import Derived.Deep.OwnRows
import Derived.Laws.AppendOwn
import Derived.OwnWalk
namespace Go.Proofs.Ythkafalpjokfeaa
open Go.RowKit
set_option linter.unusedVariables false

theorem below_alloc (w : World) (o : Obj) : Below w.heap.size w (w.alloc o) := (Below.refl _ _).alloc (Nat.le_refl _) _
theorem below_drewN (w : World) (k : Nat) : Below w.heap.size w (w.drewN k) := ⟨rfl, rfl, rfl, Nat.le_refl _, fun _ _ => rfl⟩
theorem frozen_new (w : World) (v : Value) (t : TypeId) : (w.alloc (.cells #[v] t)).frozen? ⟨w.heap.size, 0, none⟩ = false := by
  have := heap_alloc_new w (.cells #[v] t)
  unfold World.frozen?
  rw [this]
  simp
theorem cell_new (w : World) (v : Value) (t : TypeId) : (w.alloc (.cells #[v] t)).cell? ⟨w.heap.size, 0, none⟩ = some v := by rw [World.cell?_alloc_new]; rfl
theorem keep_cell (w : World) (o : Obj) {p : Addr} {v : Value} (h : w.cell? p = some v) : (w.alloc o).cell? p = some v := ((below_alloc w o).cell (World.block_lt_of_cell? _ _ h)).trans h
theorem keep_frozen (w : World) (o : Obj) {p : Addr} (hp : p.block < w.heap.size) (h : w.frozen? p = false) : (w.alloc o).frozen? p = false := ((below_alloc w o).frozen hp).trans h
theorem grown_trans_some {a b c : World} {g : Nat} (h : a.grownBy b (some g)) (k : b.grownBy c (some g)) : a.grownBy c (some g) :=
  ⟨k.os.trans h.os, k.tape.trans h.tape, k.output.trans h.output, Nat.le_trans h.size k.size, fun i hi hne => (k.block i (Nat.lt_of_lt_of_le hi h.size) hne).trans (h.block i hi hne)⟩
theorem grown_of_below {a b : World} {g : Nat} (h : Below a.heap.size a b) : a.grownBy b (some g) := ⟨h.os, h.tape, h.output, h.size, fun i hi _ => h.block i hi⟩
theorem grown_set {a : World} {g : Nat} (o : Nat) (v : Value) : a.grownBy (a.setCell ⟨g, o, none⟩ v) (some g) :=
  ⟨rfl, rfl, rfl, by simp [World.setCell], fun i _ hne => Below.heap_setCell a ⟨g, o, none⟩ v i (fun e => hne (by rw [e]))⟩
/-- Boxes of one cell, and what they hold. -/
def Bx (W : World) (l : List (Nat × Value)) : Prop := ∀ p ∈ l, W.cell? ⟨p.1, 0, none⟩ = some p.2
theorem Bx.step {W W' : World} {l : List (Nat × Value)} (h : Bx W l) (hb : Below W.heap.size W W') : Bx W' l := fun p hp => (hb.cell (p := ⟨p.1, 0, none⟩) (World.block_lt_of_cell? _ _ (h p hp))).trans (h p hp)
theorem Bx.lt {W : World} {l : List (Nat × Value)} (h : Bx W l) : ∀ p ∈ l, p.1 < W.heap.size := fun p hp => World.block_lt_of_cell? _ _ (h p hp)
theorem Bx.grown {W W' : World} {l : List (Nat × Value)} {q : Nat} (h : Bx W l) (hg : W.grownBy W' (some q)) (hne : ∀ p ∈ l, p.1 ≠ q) : Bx W' l := fun p hp =>
  (World.cell?_of_block (w := W) (a := ⟨p.1, 0, none⟩) (hg.block p.1 (h.lt p hp) (fun e => hne p hp (by injection e)))).trans (h p hp)
theorem Bx.new {W : World} {l : List (Nat × Value)} (h : Bx W l) (v : Value) (t : TypeId) : Bx (W.alloc (.cells #[v] t)) ((W.heap.size, v) :: l) := fun p hp => by
  rcases List.mem_cons.1 hp with rfl | hp
  · exact cell_new W v t
  · exact keep_cell W _ (h p hp)
theorem Bx.nil (W : World) : Bx W [] := fun p hp => by cases hp
/-- A list that may be written: its cells are open. -/
def Open (W : World) (g n : Nat) : Prop := ∀ j, j < n → W.frozen? ⟨g, j, none⟩ = false
theorem Open.step {W W' : World} {g n : Nat} (h : Open W g n) (hb : Below W.heap.size W W') (hg : 0 < n → g < W.heap.size) : Open W' g n := fun j hj => (hb.frozen (p := ⟨g, j, none⟩) (hg (by omega))).trans (h j hj)
theorem Open.grown {W W' : World} {g n q : Nat} (h : Open W g n) (hgr : W.grownBy W' (some q)) (hg : 0 < n → g < W.heap.size) (hne : 0 < n → g ≠ q) : Open W' g n := fun j hj => by
  have e := hgr.block g (hg (by omega)) (fun e => hne (by omega) (by injection e))
  have := h j hj
  unfold World.frozen? at this ⊢
  rw [e]; exact this
theorem row_form {w : World} {base : Nat} {e : TypeId} {size : Nat} {v : Value} {n : Nat} {xs : List Value} (h : w.ownsRow base e size v n xs) : ∃ a cap, v = .slice a n cap := by
  rcases h.2 with ⟨h1, h2⟩ | ⟨g, cap, cur, h1, _⟩
  · exact ⟨none, 0, by rw [h1, h2]⟩
  · exact ⟨_, cap, h1⟩
theorem row_below {w w' : World} {base : Nat} {e : TypeId} {size : Nat} {v : Value} {n : Nat} {xs : List Value} (h : w.ownsRow base e size v n xs) (hb : Below w.heap.size w w') : w'.ownsRow base e size v n xs :=
  h.kept (row := none) ⟨hb.os, hb.tape, hb.output, hb.size, fun i hi _ => hb.block i hi⟩ (Classical.em _)
end Go.Proofs.Ythkafalpjokfeaa
