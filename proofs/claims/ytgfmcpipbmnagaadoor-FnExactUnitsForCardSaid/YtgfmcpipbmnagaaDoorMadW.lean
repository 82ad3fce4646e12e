/-
  Lists that are made and answered if they are traces: ifTrace, l5Made; stretched traces. Used by the claims on chapter 5.
-/
import Derived.Test.YtgfmcpipbmnagaaDoorDrfB
import Derived.Laws.OwnMore
import Derived.RegionTactic
import Derived.Deep.RegionLaw
namespace Go.Proofs.YtgfmcpipbmnagaaDoor
open Go.RowKit
set_option linter.unusedVariables false

def finR (m : List Nat) : List Nat × Bool := if traceZ (zs m) = true then (m, true) else ([], false)
/-- How a function ends that answers with a list of its own if it is a trace, and with none otherwise. -/
def FinOut (m : List Nat) (W : World) (e : Ending) (W' : World) : Prop := SeqOut (ints (finR m).1) (finR m).1.length (finR m).2 W e W'
theorem fin_some {m : List Nat} {W W' : World} {a : Option Addr} {g c : Nat} (h : traceZ (zs m) = true) (hs : SrcV W' a g (ints m)) (hg : 0 < (ints m).length → W.heap.size ≤ g) (ho : ∀ j, j < (ints m).length → W'.frozen? ⟨g, j, none⟩ = false) (hb : Below W.heap.size W W') :
    FinOut m W (.returned (.tuple #[.slice a m.length c, .bool true])) W' := by
  unfold FinOut finR
  rw [if_pos h]
  exact ⟨a, g, c, rfl, hs, hg, ho, hb⟩
theorem fin_none {m : List Nat} {W W' : World} {a : Option Addr} {c : Nat} (h : traceZ (zs m) = false) (hb : Below W.heap.size W W') :
    FinOut m W (.returned (.tuple #[.slice a 0 c, .bool false])) W' := by
  unfold FinOut finR
  rw [if_neg (by rw [h]; simp)]
  exact ⟨a, W.heap.size, c, rfl, ⟨fun h => by simp [ints] at h, fun j x hx => by simp [ints] at hx⟩, fun h => by simp [ints] at h, fun j hj => by simp [ints] at hj, hb⟩
theorem seq_no (a : Option Addr) (c : Nat) {W W' : World} (hb : Below W.heap.size W W') : SeqOut (ints []) ([] : List Nat).length false W (.returned (.tuple #[.slice a 0 c, .bool false])) W' :=
  ⟨a, W.heap.size, c, rfl, ⟨fun h => by simp [ints] at h, fun j x hx => by simp [ints] at hx⟩, fun h => by simp [ints] at h, fun j hj => by simp [ints] at hj, hb⟩
/-- Behind a row of its own the list is answered if it is a trace. -/
def MadePost (m : List Nat) (W : World) (e : Ending) (W' : World) : Prop := ∃ v ok, e = .returned (.tuple #[v, .bool ok]) ∧ FinOut m W (.returned (.tuple #[v, .bool ok])) W'
theorem nat_wrap {n : Nat} (h : n ≤ 1000000000000) : wrap64 (n : Int) = (n : Int) := IntWalk.wrap64_in _ (by omega)
theorem nat_wrap2 {n : Nat} (h : n ≤ 1000000000000) : IntKind.i64.wrap (n : Int) = (n : Int) := by rw [IntKind.wrap_i64]; omega
theorem quo_facts (x t b : Nat) (hx : x ≤ 999) (ht : t ≤ 99) (hb0 : 1 ≤ b) (hb : b ≤ 99) : ∃ p q : Nat, x * t / b = q ∧ (x : Int) * (t : Int) = (p : Int) ∧ wrap64 (p : Int) = (p : Int) ∧ IntKind.i64.wrap (p : Int) = (p : Int) ∧ ¬ (b : Int) = 0 ∧ ((b : Int) == 0) = false ∧ Int.tdiv (p : Int) (b : Int) = (q : Int) ∧ wrap64 (q : Int) = (q : Int) ∧ IntKind.i64.wrap (q : Int) = (q : Int) := by
  have h : x * t ≤ 999 * 99 := Nat.mul_le_mul hx ht
  have h2 : x * t / b ≤ x * t := Nat.div_le_self _ _
  have e : Int.tdiv ((x * t : Nat) : Int) (b : Int) = ((x * t / b : Nat) : Int) := by
    rw [Int.tdiv_eq_ediv_of_nonneg (by omega)]
    rfl
  have e2 : (x : Int) * (t : Int) = ((x * t : Nat) : Int) := (Int.natCast_mul _ _).symm
  generalize x * t / b = q at h2 e ⊢
  generalize x * t = p at h h2 e e2
  exact ⟨p, q, rfl, e2, nat_wrap (by omega), nat_wrap2 (by omega), by omega, beq_false_of_ne (by omega), e, nat_wrap (by omega), nat_wrap2 (by omega)⟩
theorem finR_len {m : List Nat} {n : Nat} (h : m.length ≤ n) : (finR m).1.length ≤ n := by
  unfold finR
  split
  · exact h
  · simp
end Go.Proofs.YtgfmcpipbmnagaaDoor
