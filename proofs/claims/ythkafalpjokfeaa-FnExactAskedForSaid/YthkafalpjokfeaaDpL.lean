/-
  What asking keeps: the depths that a map holds, the letters in memory. Used by the claims on chapter 11.
-/
import Derived.Test.YthkafalpjokfeaaQuW
import Derived.Test.YthkafalpjokfeaaTnW
namespace Go.Proofs.Ythkafalpjokfeaa
open Go.RowKit Go.Shelf Go.Maps Go.WideMaps
set_option linter.unusedVariables false

/-- Letters of a Table. -/
structure Lt (xs : List ByteArray) (m : List Nat) : Prop where
  tab : tableB xs = true
  ne : m ≠ []
  lt : ∀ i ∈ m, i < xs.length
  up : m.Pairwise (· < ·)
theorem Lt.nodup {xs : List ByteArray} {m : List Nat} (h : Lt xs m) : m.Nodup := h.up.imp fun h e => by omega
theorem Lt.ten {xs : List ByteArray} {m : List Nat} (h : Lt xs m) : xs.length ≤ 10 := ((tableB_iff xs).1 h.tab).1.2
theorem up_len {n : Nat} : ∀ {m : List Nat} (b : Nat), m.Pairwise (· < ·) → (∀ i ∈ m, b ≤ i ∧ i < n) → m.length ≤ n - b
  | [], b, _, _ => by simp
  | a :: r, b, h, hb => by
    have h1 := List.pairwise_cons.1 h
    have h2 := hb a (by simp)
    have := up_len (n := n) (m := r) (a + 1) h1.2 (fun i hi => ⟨h1.1 i hi, (hb i (by simp [hi])).2⟩)
    rw [List.length_cons]; omega
theorem Lt.len {xs : List ByteArray} {m : List Nat} (h : Lt xs m) : m.length ≤ 10 := by
  have := up_len (n := xs.length) 0 h.up (fun i hi => ⟨by omega, h.lt i hi⟩)
  have := h.ten
  omega
theorem Lt.five {xs : List ByteArray} {m : List Nat} (h : Lt xs m) : ∀ i ∈ m, (atL xs i).size ≤ 5 := fun i hi => by
  have hil := h.lt i hi
  rw [atL_eq (List.getElem?_eq_getElem hil)]
  have := ((tableB_iff xs).1 h.tab).2.1 _ (List.getElem_mem hil)
  simp only [marksL, Bool.and_eq_true, decide_eq_true_eq, bl_len] at this
  exact this.1.2
theorem Lt.dif {xs : List ByteArray} {m : List Nat} (h : Lt xs m) : Dif xs m := dif_table h.tab h.lt
theorem Lt.part {xs : List ByteArray} {m : List Nat} (h : Lt xs m) {p q : Nat} (hne : partK xs m p q ≠ []) : Lt xs (partK xs m p q) :=
  ⟨h.tab, hne, fun i hi => h.lt i (partK_mem.1 hi).1, h.up.filter _⟩
theorem Lt.prt {xs : List ByteArray} {m : List Nat} (h : Lt xs m) {p : Nat} {l : List Nat} (hl : l ∈ prts xs m p) : Lt xs l := by
  obtain ⟨hne, q, _, rfl⟩ := prts_mem.1 hl
  exact h.part hne
theorem prt_lt {xs : List ByteArray} {m : List Nat} {p : Nat} {l : List Nat} (hv : vainB xs m p = false) (hl : l ∈ prts xs m p) : l.length < m.length := by
  obtain ⟨_, q, _, rfl⟩ := prts_mem.1 hl
  exact part_lt hv
/-- The greatest depth of the first parts. -/
def dmax (xs : List ByteArray) (ps : List (List Nat)) (j : Nat) : Nat := (ps.take j).foldl (fun z l => max z (dep xs l)) 0
theorem dmax_zero (xs : List ByteArray) (ps : List (List Nat)) : dmax xs ps 0 = 0 := rfl
theorem dmax_succ (xs : List ByteArray) (ps : List (List Nat)) (j : Nat) (hj : j < ps.length) : dmax xs ps (j + 1) = max (dmax xs ps j) (dep xs ps[j]) := by
  unfold dmax
  rw [List.take_add_one, List.getElem?_eq_getElem hj, List.foldl_append]; rfl
theorem dmax_worst (xs : List ByteArray) (m : List Nat) (p : Nat) : dmax xs (prts xs m p) (prts xs m p).length = worst xs (dep xs) m p := by
  have e : ∀ q, partK xs m p q = [] → dep xs (partK xs m p q) = 0 := fun q h => by rw [h]; exact dep_short xs (by simp)
  have e0 := e 0
  have e1 := e 1
  have e2 := e 2
  unfold dmax
  rw [List.take_length]
  unfold prts worst
  generalize partK xs m p 0 = a at *
  generalize partK xs m p 1 = b at *
  generalize partK xs m p 2 = c at *
  by_cases ha : a = [] <;> by_cases hb : b = [] <;> by_cases hc : c = [] <;> simp_all
theorem dmax_le (xs : List ByteArray) (ps : List (List Nat)) (h : ∀ l ∈ ps, l.length ≤ 10) : ∀ j, dmax xs ps j ≤ 10
  | 0 => by rw [dmax_zero]; omega
  | j + 1 => by
    by_cases hj : j < ps.length
    · rw [dmax_succ xs ps j hj]
      have h1 := dmax_le xs ps h j
      have h2 := dep_le xs ps[j]
      have h3 := h _ (List.getElem_mem hj)
      omega
    · have : dmax xs ps (j + 1) = dmax xs ps j := by
        unfold dmax
        rw [List.take_of_length_le (by omega), List.take_of_length_le (by omega)]
      rw [this]; exact dmax_le xs ps h j

/-! ### The map of depths -/
theorem inB_inj {m m' : List Nat} (hu : m.Pairwise (· < ·)) (hu' : m'.Pairwise (· < ·)) (h : ∀ i ∈ m, i < 10) (h' : ∀ i ∈ m', i < 10) (e : ∀ j, j < 10 → inB m j = inB m' j) : m = m' := by
  have key : ∀ j, j ∈ m ↔ j ∈ m' := fun j => by
    constructor
    · intro hj
      have := e j (h j hj)
      unfold inB at this
      rw [decide_eq_true hj] at this
      simpa using this.symm
    · intro hj
      have := e j (h' j hj)
      unfold inB at this
      rw [decide_eq_true hj] at this
      simpa using this
  have e1 := List.Perm.eq_of_pairwise (le := fun a b => a < b) (fun a b _ _ h1 h2 => by omega) hu hu' ((List.perm_ext_iff_of_nodup (hu.imp fun h e => by omega) (hu'.imp fun h e => by omega)).2 key)
  exact e1
/-- The map in block M holds depths. -/
def Dm (xs : List ByteArray) (M n : Nat) (W : World) : Prop :=
  ∃ D : DataW Value, W.ownsMap Try.prog 122 (plainElem Try.prog 3) M n D ∧
    ∀ m, Lt xs m → Maps.has D (keyT (inB m)) = true → D.atKey (keyT (inB m)) (.lit (.int .i64 0)) = .lit (.int .i64 ((dep xs m : Nat) : Int))
theorem Dm.kept {xs : List ByteArray} {M n : Nat} {W W' : World} {row : Option Nat} (h : Dm xs M n W) (hg : W.grownBy W' row) (hne : some M ≠ row) : Dm xs M n W' := by
  obtain ⟨D, h1, h2⟩ := h
  exact ⟨D, h1.kept hg hne, h2⟩
theorem Dm.below {xs : List ByteArray} {M n : Nat} {W W' : World} (h : Dm xs M n W) (hb : Below W.heap.size W W') : Dm xs M n W' :=
  h.kept (row := none) ⟨hb.os, hb.tape, hb.output, hb.size, fun i hi _ => hb.block i hi⟩ (by simp)
theorem Dm.lt {xs : List ByteArray} {M n : Nat} {W : World} (h : Dm xs M n W) : M < W.heap.size := by
  obtain ⟨D, h1, _⟩ := h
  exact h1.lt
theorem Dm.isMap {xs : List ByteArray} {M n : Nat} {W : World} (h : Dm xs M n W) : ∃ o : Obj, W.heap[M]? = some o ∧ o.isCells = false := by
  obtain ⟨D, ⟨es, clock, hb, _⟩, _⟩ := h
  exact ⟨_, hb, rfl⟩
theorem Dm.made (xs : List ByteArray) (W : World) : Dm xs W.heap.size 0 (W.alloc (.map #[] 0)) :=
  ⟨.map [], World.ownsMap_made _ _ _ _, fun m _ h => by cases h⟩
end Go.Proofs.Ythkafalpjokfeaa
