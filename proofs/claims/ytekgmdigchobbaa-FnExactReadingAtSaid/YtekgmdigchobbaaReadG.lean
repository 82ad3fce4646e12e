/-
  Plain: a text is read letter by letter, each time by the first letter whose marks come next and that a test accepts. Used by the claims on chapter 3.
-/
import Derived.Test.YtekgmdigchobbaaReadL
namespace Go.Proofs.Ytekgmdigchobbaa
open Go.RowKit
set_option linter.unusedVariables false

structure Tk (σ : Type) where
  yes : σ → Nat → Nat → Bool
  nxt : σ → Nat → Nat → σ
def scanG {σ : Type} (T : Tk σ) (s : ByteArray) (p : Nat) : List ByteArray → Nat → σ → Option (Nat × σ × Nat)
  | [], _, _ => none
  | x :: r, j, st => if stands s x p = true then (if T.yes st p (p + x.size) = true then some (j, T.nxt st p (p + x.size), x.size) else scanG T s p r (j + 1) (T.nxt st p (p + x.size))) else scanG T s p r (j + 1) st
def rdG {σ : Type} (T : Tk σ) (xs : List ByteArray) (s : ByteArray) : Nat → σ → Nat → Option Bs
  | 0, _, _ => some []
  | n + 1, st, p => if p < s.size then (match scanG T s p xs 0 st with
      | none => none
      | some (j, st', l) => (rdG T xs s n st' (p + l)).map (UInt8.ofNat (97 + j) :: ·)) else some []
def outG : Option Bs → ByteArray × Bool
  | none => (⟨#[]⟩, false)
  | some l => (ba l, true)
theorem scanG_nil {σ : Type} (T : Tk σ) (s : ByteArray) (p j : Nat) (xs : List ByteArray) (st : σ) : scanG T s p (xs.drop xs.length) j st = none := by rw [List.drop_length]; rfl
theorem scanG_off {σ : Type} (T : Tk σ) (s : ByteArray) (p j : Nat) {xs : List ByteArray} {x : ByteArray} (st : σ) (hx : xs[j]? = some x) (h : stands s x p = false) : scanG T s p (xs.drop j) j st = scanG T s p (xs.drop (j + 1)) (j + 1) st := by
  obtain ⟨hj, rfl⟩ := List.getElem?_eq_some_iff.1 hx
  rw [List.drop_eq_getElem_cons hj, scanG, if_neg (by simp [h])]
theorem scanG_yes {σ : Type} (T : Tk σ) (s : ByteArray) (p j : Nat) {xs : List ByteArray} {x : ByteArray} (st : σ) (hx : xs[j]? = some x) (h : stands s x p = true) (hy : T.yes st p (p + x.size) = true) : scanG T s p (xs.drop j) j st = some (j, T.nxt st p (p + x.size), x.size) := by
  obtain ⟨hj, rfl⟩ := List.getElem?_eq_some_iff.1 hx
  rw [List.drop_eq_getElem_cons hj, scanG, if_pos h, if_pos hy]
theorem scanG_no {σ : Type} (T : Tk σ) (s : ByteArray) (p j : Nat) {xs : List ByteArray} {x : ByteArray} (st : σ) (hx : xs[j]? = some x) (h : stands s x p = true) (hy : T.yes st p (p + x.size) = false) : scanG T s p (xs.drop j) j st = scanG T s p (xs.drop (j + 1)) (j + 1) (T.nxt st p (p + x.size)) := by
  obtain ⟨hj, rfl⟩ := List.getElem?_eq_some_iff.1 hx
  rw [List.drop_eq_getElem_cons hj, scanG, if_pos h, if_neg (by simp [hy])]
theorem rdG_end {σ : Type} (T : Tk σ) (xs : List ByteArray) (s : ByteArray) (n : Nat) (st : σ) : rdG T xs s n st s.size = some [] := by
  cases n with
  | zero => rfl
  | succ n => rw [rdG, if_neg (Nat.lt_irrefl _)]
theorem rdG_none {σ : Type} (T : Tk σ) (xs : List ByteArray) (s : ByteArray) (n : Nat) (st : σ) {p : Nat} (hp : p < s.size) (h : scanG T s p xs 0 st = none) : rdG T xs s (n + 1) st p = none := by
  rw [rdG, if_pos hp, h]
theorem rdG_some {σ : Type} (T : Tk σ) (xs : List ByteArray) (s : ByteArray) (n : Nat) (st : σ) {p j l : Nat} {st' : σ} (hp : p < s.size) (h : scanG T s p xs 0 st = some (j, st', l)) : rdG T xs s (n + 1) st p = (rdG T xs s n st' (p + l)).map (UInt8.ofNat (97 + j) :: ·) := by
  rw [rdG, if_pos hp, h]

/-- What lies in the blocks of a call's beginning. -/
def Holds0 {σ : Type} (n : Nat) (I : σ → World → Prop) : Prop := ∀ st W W', I st W → (∀ b, b < n → W'.heap[b]? = W.heap[b]?) → I st W'
theorem below_of_grown {B K : Nat} {w0 W w' : World} (h : W.grownBy w' (some K)) (hB : Below B w0 W) (hs : B ≤ w0.heap.size) (hK : B ≤ K) : Below B w0 w' :=
  hB.grown h (Nat.le_trans hs hB.size) (fun j hj => by cases hj; exact hK)
end Go.Proofs.Ytekgmdigchobbaa
