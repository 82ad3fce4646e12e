/-
  Which lists of texts are tables, told by bytes; the place of a text in a list. Used by the claims on chapter 2.
-/
import Derived.Test.YthkafalpjokfeaaListW
namespace Go.Proofs.Ythkafalpjokfeaa
open Go.RowKit
set_option linter.unusedVariables false

/-! ### Tables, told by bytes -/
def tableB (xs : List ByteArray) : Bool := tableL (xs.map bl)
theorem nodup_bl (xs : List ByteArray) : (xs.map bl).Nodup ↔ xs.Nodup := by
  constructor
  · intro h
    have h4 : (xs.map bl).Pairwise (fun a b => a ≠ b) := h
    exact (List.pairwise_map.1 h4).imp fun {a b} hne e => hne (by rw [e])
  · intro h
    have h4 : xs.Pairwise (fun a b => a ≠ b) := h
    exact List.pairwise_map.2 (h4.imp fun {a b} hne e => hne (bl_inj e))
theorem tableB_iff (xs : List ByteArray) : tableB xs = true ↔ (1 ≤ xs.length ∧ xs.length ≤ 10) ∧ (∀ x ∈ xs, marksL (bl x) = true) ∧ xs.Nodup := by
  unfold tableB
  rw [tableL_iff, nodup_bl, List.length_map]
  simp
theorem tableB_no {xs : List ByteArray} (h : ¬ ((1 ≤ xs.length ∧ xs.length ≤ 10) ∧ (∀ x ∈ xs, marksL (bl x) = true) ∧ xs.Nodup)) : tableB xs = false := by
  rw [Bool.eq_false_iff]; exact fun e => h ((tableB_iff xs).1 e)

/-- A list of texts that came in: it lies in memory and is no longer than a length can be. -/
structure ListIn (w : World) (a : Option Addr) (b o : Nat) (xs : List ByteArray) : Prop where
  src : Src w a b o xs
  len : xs.length ≤ 1048576
  texts : ∀ x ∈ xs, x.size ≤ 1048576
theorem ListIn.below {w w' : World} {a : Option Addr} {b o : Nat} {xs : List ByteArray} (h : ListIn w a b o xs) (hb : Below w.heap.size w w') : ListIn w' a b o xs := ⟨h.src.below hb, h.len, h.texts⟩


/-- The place of a text, or none. -/
def placeB (xs : List ByteArray) (s : ByteArray) : Option Nat := place (xs.map bl) (bl s)
def idx : Option Nat → Int
  | some k => k
  | none => -1
theorem idx_eq {p : Option Nat} {k : Nat} (h : idx p = (k : Int)) : p = some k := by
  cases p with
  | none => simp only [idx] at h; omega
  | some j => simp only [idx] at h; congr 1; omega
theorem at_bl (xs : List ByteArray) (s : ByteArray) (j : Nat) : (xs.map bl)[j]? = some (bl s) ↔ xs[j]? = some s := by
  rw [List.getElem?_map]
  cases h : xs[j]? with
  | none => simp
  | some x => simp only [Option.map_some, Option.some.injEq]; exact ⟨fun e => bl_inj e, fun e => by rw [e]⟩
theorem placeB_some {xs : List ByteArray} {s : ByteArray} {k : Nat} : placeB xs s = some k ↔ xs[k]? = some s ∧ ∀ j, j < k → xs[j]? ≠ some s := by
  unfold placeB
  rw [place_some, at_bl]
  constructor
  · rintro ⟨h1, h2⟩; exact ⟨h1, fun j hj e => h2 j hj ((at_bl xs s j).2 e)⟩
  · rintro ⟨h1, h2⟩; exact ⟨h1, fun j hj e => h2 j hj ((at_bl xs s j).1 e)⟩
theorem placeB_none {xs : List ByteArray} {s : ByteArray} : placeB xs s = none ↔ s ∉ xs := by
  unfold placeB
  rw [place_none]
  constructor
  · intro h hm; exact h (List.mem_map.2 ⟨s, hm, rfl⟩)
  · intro h hm
    obtain ⟨y, hy, e⟩ := List.mem_map.1 hm
    exact h (bl_inj e ▸ hy)
theorem placeB_at {xs : List ByteArray} (h : xs.Nodup) {i : Nat} {x : ByteArray} (hi : xs[i]? = some x) : placeB xs x = some i := place_at ((nodup_bl xs).2 h) ((at_bl xs x i).2 hi)
theorem nodup_places {xs : List ByteArray} (h : ∀ j x, xs[j]? = some x → placeB xs x = some j) : xs.Nodup := by
  refine List.pairwise_iff_getElem.2 fun i j hi hj hij e => ?_
  have h1 := h i _ (List.getElem?_eq_getElem hi)
  have h2 := h j _ (List.getElem?_eq_getElem hj)
  rw [e, h2] at h1
  have := Option.some.inj h1
  omega
end Go.Proofs.Ythkafalpjokfeaa
