/-
  Plain: the reading before which there are k readings. Used by the claims on chapter 3.
-/
import Derived.Test.YtekgmdigchobbaaWayS
namespace Go.Proofs.Ytekgmdigchobbaa
set_option linter.unusedVariables false

def pickI (xs : List ByteArray) (s : ByteArray) (p k : Nat) : Nat := ((List.range xs.length).find? fun i => decide (k < wayPart xs s p (i + 1))).getD 0
def rdL (xs : List ByteArray) (s : ByteArray) : Nat → Nat → Nat → Bs
  | 0, _, _ => []
  | n + 1, p, k => if p < s.size then UInt8.ofNat (97 + pickI xs s p k) :: rdL xs s n (p + (xs.getD (pickI xs s p k) ⟨#[]⟩).size) (k - wayPart xs s p (pickI xs s p k)) else []
theorem wayPart_mono (xs : List ByteArray) (s : ByteArray) (p : Nat) {i j : Nat} (h : i ≤ j) : wayPart xs s p i ≤ wayPart xs s p j := by
  unfold wayPart
  have h1 := wsum_take_le ((xs.map bl).take j) i ((bl s).drop p) (fun n => wayAt xs s (p + n))
  rwa [List.take_take, show min i j = i by omega] at h1
theorem pickI_eq {xs : List ByteArray} {s : ByteArray} {p k i : Nat} (hi : i < xs.length) (h1 : wayPart xs s p i ≤ k) (h2 : k < wayPart xs s p (i + 1)) : pickI xs s p k = i := by
  unfold pickI
  have : (List.range xs.length).find? (fun i => decide (k < wayPart xs s p (i + 1))) = some i := by
    rw [List.find?_eq_some_iff_getElem]
    refine ⟨decide_eq_true h2, i, by simpa using hi, by simp, fun j hj => ?_⟩
    have h3 := wayPart_mono xs s p (show j + 1 ≤ i by omega)
    simp
    omega
  rw [this]; rfl
theorem rdL_end (xs : List ByteArray) (s : ByteArray) (n k : Nat) : rdL xs s n s.size k = [] := by
  cases n with
  | zero => rfl
  | succ n => rw [rdL, if_neg (Nat.lt_irrefl _)]
theorem rdL_step {xs : List ByteArray} {s : ByteArray} {n p k i : Nat} {x : ByteArray} (hp : p < s.size) (hx : xs[i]? = some x) (h1 : wayPart xs s p i ≤ k) (h2 : k < wayPart xs s p (i + 1)) : rdL xs s (n + 1) p k = UInt8.ofNat (97 + i) :: rdL xs s n (p + x.size) (k - wayPart xs s p i) := by
  have hi : i < xs.length := (List.getElem?_eq_some_iff.1 hx).1
  rw [rdL, if_pos hp, pickI_eq hi h1 h2, List.getD_eq_getElem?_getD, hx]; rfl
/-- A letter is taken: it stands, and the rest has more readings than are left before it. -/
theorem take_facts {xs : List ByteArray} {s : ByteArray} {p k i : Nat} {x : ByteArray} (hx : xs[i]? = some x) (h1 : wayPart xs s p i ≤ k) (hst : stands s x p = true) (h2 : k - wayPart xs s p i < wayAt xs s (p + x.size)) : k < wayPart xs s p (i + 1) := by
  rw [wayPart_succ xs s p i x hx, if_pos hst]; omega
open Go.RowKit
set_option linter.unusedVariables false

structure Tk (σ : Type) where
  yes : σ → Nat → Nat → Bool
  nxt : σ → Nat → Nat → σ
def scanG {σ : Type} (T : Tk σ) (s : ByteArray) (p : Nat) : List ByteArray → Nat → σ → Option (Nat × σ × Nat)
  | [], _, _ => none
  | x :: r, j, st => if stands s x p = true then (if T.yes st p (p + x.size) = true then some (j, T.nxt st p (p + x.size), x.size) else scanG T s p r (j + 1) (T.nxt st p (p + x.size))) else scanG T s p r (j + 1) st
def rdG {σ : Type} (T : Tk σ) (xs : List ByteArray) (s : ByteArray) : Nat → σ → Nat → Option Bs
  | 0, _, _ => some []
  | n + 1, st, p => if p < s.size then (match scanG T s p xs 0 st with
      | none => none
      | some (j, st', l) => (rdG T xs s n st' (p + l)).map (UInt8.ofNat (97 + j) :: ·)) else some []
def outG : Option Bs → ByteArray × Bool
  | none => (⟨#[]⟩, false)
  | some l => (ba l, true)
theorem scanG_nil {σ : Type} (T : Tk σ) (s : ByteArray) (p j : Nat) (xs : List ByteArray) (st : σ) : scanG T s p (xs.drop xs.length) j st = none := by rw [List.drop_length]; rfl
theorem scanG_off {σ : Type} (T : Tk σ) (s : ByteArray) (p j : Nat) {xs : List ByteArray} {x : ByteArray} (st : σ) (hx : xs[j]? = some x) (h : stands s x p = false) : scanG T s p (xs.drop j) j st = scanG T s p (xs.drop (j + 1)) (j + 1) st := by
  obtain ⟨hj, rfl⟩ := List.getElem?_eq_some_iff.1 hx
  rw [List.drop_eq_getElem_cons hj, scanG, if_neg (by simp [h])]
theorem scanG_yes {σ : Type} (T : Tk σ) (s : ByteArray) (p j : Nat) {xs : List ByteArray} {x : ByteArray} (st : σ) (hx : xs[j]? = some x) (h : stands s x p = true) (hy : T.yes st p (p + x.size) = true) : scanG T s p (xs.drop j) j st = some (j, T.nxt st p (p + x.size), x.size) := by
  obtain ⟨hj, rfl⟩ := List.getElem?_eq_some_iff.1 hx
  rw [List.drop_eq_getElem_cons hj, scanG, if_pos h, if_pos hy]
theorem scanG_no {σ : Type} (T : Tk σ) (s : ByteArray) (p j : Nat) {xs : List ByteArray} {x : ByteArray} (st : σ) (hx : xs[j]? = some x) (h : stands s x p = true) (hy : T.yes st p (p + x.size) = false) : scanG T s p (xs.drop j) j st = scanG T s p (xs.drop (j + 1)) (j + 1) (T.nxt st p (p + x.size)) := by
  obtain ⟨hj, rfl⟩ := List.getElem?_eq_some_iff.1 hx
  rw [List.drop_eq_getElem_cons hj, scanG, if_pos h, if_neg (by simp [hy])]
theorem rdG_end {σ : Type} (T : Tk σ) (xs : List ByteArray) (s : ByteArray) (n : Nat) (st : σ) : rdG T xs s n st s.size = some [] := by
  cases n with
  | zero => rfl
  | succ n => rw [rdG, if_neg (Nat.lt_irrefl _)]
theorem rdG_none {σ : Type} (T : Tk σ) (xs : List ByteArray) (s : ByteArray) (n : Nat) (st : σ) {p : Nat} (hp : p < s.size) (h : scanG T s p xs 0 st = none) : rdG T xs s (n + 1) st p = none := by
  rw [rdG, if_pos hp, h]
theorem rdG_some {σ : Type} (T : Tk σ) (xs : List ByteArray) (s : ByteArray) (n : Nat) (st : σ) {p j l : Nat} {st' : σ} (hp : p < s.size) (h : scanG T s p xs 0 st = some (j, st', l)) : rdG T xs s (n + 1) st p = (rdG T xs s n st' (p + l)).map (UInt8.ofNat (97 + j) :: ·) := by
  rw [rdG, if_pos hp, h]

/-- What lies in the blocks of a call's beginning. -/
def Holds0 {σ : Type} (n : Nat) (I : σ → World → Prop) : Prop := ∀ st W W', I st W → (∀ b, b < n → W'.heap[b]? = W.heap[b]?) → I st W'
theorem below_of_grown {B K : Nat} {w0 W w' : World} (h : W.grownBy w' (some K)) (hB : Below B w0 W) (hs : B ≤ w0.heap.size) (hK : B ≤ K) : Below B w0 w' :=
  hB.grown h (Nat.le_trans hs hB.size) (fun j hj => by cases hj; exact hK)
end Go.Proofs.Ytekgmdigchobbaa
