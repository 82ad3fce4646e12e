/-
  The laws' own markIntS, heldIntS at a list of numbers. Used by the claims on chapter 3.
-/
import Derived.Test.YthkafalpjokfeaaSeqW
namespace Go.Proofs.Ythkafalpjokfeaa
open Go.RowKit
set_option linter.unusedVariables false

theorem markIl_any (a : Option Addr) (g : Nat) (l : List Nat) (c : Nat) (w : World) (ha : 0 < (ints l).length → a = some ⟨g, 0, none⟩) (h2 : l.length ≤ 1048576) (ho : ∀ j, j < (ints l).length → (∃ v, w.cell? ⟨g, j, none⟩ = some v) ∧ w.frozen? ⟨g, j, none⟩ = false) :
    Calls Try.prog 27 #[.slice a l.length c, .int .i64 1] w fun e w' => e = .returned (.int .i64 ((1 + (ints l).length : Nat) : Int)) ∧ w.grownBy w' (some g) ∧ ∀ j, j < (ints l).length → w'.cell? ⟨g, j, none⟩ = some (.int .i64 ((1 + j : Nat) : Int)) := by
  rw [ints_len] at ha ho ⊢
  exact markI_any a g l.length c w ha h2 ho
theorem heldIl_any (a : Option Addr) (g : Nat) (l : List Nat) (c : Nat) (w : World) (ha : 0 < (ints l).length → a = some ⟨g, 0, none⟩) (h2 : l.length ≤ 1048576) (ho : ∀ j, j < (ints l).length → w.cell? ⟨g, j, none⟩ = some (.int .i64 ((1 + j : Nat) : Int))) :
    Calls Try.prog 28 #[.slice a l.length c, .int .i64 1] w fun e w' => e = .returned (.int .i64 ((1 + (ints l).length : Nat) : Int)) ∧ Below w.heap.size w w' := by
  rw [ints_len] at ha ho ⊢
  exact heldI_any a g l.length c w ha h2 ho
end Go.Proofs.Ythkafalpjokfeaa
