/-
  costOf, CostOf of the program, l8Cost, CostOf of the model: both answer alike. Used by the claims on chapter 8.
-/
import Derived.Test.YthkafalpjokfeaaWgW
import Derived.Deep.RegionWith
namespace Go.Proofs.Ythkafalpjokfeaa
open Go.RowKit
set_option linter.unusedVariables false

theorem mul_small {x y : Nat} (hx : x ≤ 99) (hy : y ≤ 19) : ∃ p : Nat, p = x * y ∧ p ≤ 1881 ∧ (x : Int) * (y : Int) = (p : Int) := by
  have h : x * y ≤ 99 * 19 := Nat.mul_le_mul hx hy
  exact ⟨x * y, rfl, by omega, by rw [Int.natCast_mul]⟩
theorem wrap_small {p : Nat} (h : p ≤ 40000) : IntKind.i64.wrap (p : Int) = (p : Int) ∧ wrap64 (p : Int) = (p : Int) := ⟨IntWalk.i64_in _ (by omega), IntWalk.wrap64_in _ (by omega)⟩
theorem wrap_sum {z p : Nat} (hz : z ≤ 40000) (hp : p ≤ 40000) : (IntKind.i64.wrap ((z : Int) + (p : Int)) = (z : Int) + (p : Int)) ∧ (wrap64 ((z : Int) + (p : Int)) = (z : Int) + (p : Int)) := ⟨IntWalk.i64_in _ (by omega), IntWalk.wrap64_in _ (by omega)⟩
theorem zs_src {w : World} {a : Option Addr} {g : Nat} {m : List Nat} (h : SrcV w a g (intz (zs m))) (k : Nat) (hk : k < m.length) : w.cell? ⟨g, k, none⟩ = some (.int .i64 ((m[k] : Nat) : Int)) := by
  have := h.2 k _ (intz_at (l := zs m) (by rw [zs_len]; exact hk))
  rw [zs_at hk] at this
  exact this

def cosR (xs : List ByteArray) (l : List Int) : Nat := if fitB xs l = true then costR xs l else 0
/-! ### The model's -/
theorem zs_srcI {w : World} {a : Option Addr} {g p : Nat} {m : List Nat} (h : SrcI w a g p (zs m)) (k : Nat) (hk : k < m.length) : w.cell? ⟨g, p + k, none⟩ = some (.int .i64 ((m[k] : Nat) : Int)) := by
  have := h.2 k _ (List.getElem?_eq_getElem (by rw [zs_len]; exact hk))
  rw [zs_at hk] at this
  exact this
theorem srcI_of {w : World} {a : Option Addr} {g : Nat} {l : List Int} (h : SrcV w a g (intz l)) : SrcI w a g 0 l :=
  ⟨fun h0 => h.1 (by rw [intz_len]; exact h0), fun j x hx => by
    obtain ⟨hj, rfl⟩ := List.getElem?_eq_some_iff.1 hx
    rw [Nat.zero_add]
    exact h.2 j _ (intz_at hj)⟩
end Go.Proofs.Ythkafalpjokfeaa
