/-
  Plain facts on lists of texts: what JoinStrings asks of them. No program. Used by the claims on JoinStrings, AppendChecksum, VerifyChecksum, SplitString.
-/
import Derived.Lib.Join
import Derived.SliceStrings
namespace Go.Proofs.Ythkafalpjokfeaa

/-- One byte behind each text. -/
def tot (xs : List ByteArray) : Nat := (xs.map fun x => x.size + 1).sum
theorem tot_take_succ (xs : List ByteArray) (k : Nat) (x : ByteArray) (h : xs[k]? = some x) : tot (xs.take (k + 1)) = tot (xs.take k) + x.size + 1 := by
  rw [List.take_add_one, h]
  simp [tot]; omega
theorem tot_take_le (xs : List ByteArray) (k : Nat) : tot (xs.take k) ≤ tot xs := by
  induction xs generalizing k with
  | nil => simp [tot]
  | cons y r ih =>
    cases k with
    | zero => simp [tot]
    | succ k =>
      have := ih k
      simp only [tot, List.take_succ_cons, List.map_cons, List.sum_cons] at this ⊢
      omega
theorem tot_len (xs : List ByteArray) : xs.length ≤ tot xs := by
  induction xs with
  | nil => simp [tot]
  | cons y r ih => simp only [tot, List.map_cons, List.sum_cons, List.length_cons] at ih ⊢; omega

/-- The joined texts. -/
def joined (xs : List ByteArray) (b : UInt8) : List UInt8 := Lib.join (xs.map (·.data.toList)) [b]
theorem joined_len (xs : List ByteArray) (b : UInt8) (h : xs ≠ []) : (joined xs b).length + 1 = tot xs := by
  unfold joined
  cases xs with
  | nil => exact absurd rfl h
  | cons x r =>
    rw [List.map_cons, Lib.join_cons, List.length_append, Lib.joinTail_length]
    have : ∀ r : List ByteArray, tot r = r.length + Lib.lens (r.map (·.data.toList)) := by
      intro r
      induction r with
      | nil => rfl
      | cons y r ih => simp only [tot, Lib.lens, List.map_cons, List.sum_cons, List.length_cons] at ih ⊢; simp at ih ⊢; omega
    have h2 := this r
    simp only [tot, List.map_cons, List.sum_cons] at h2 ⊢
    simp at h2 ⊢
    omega
/-- Some text has the byte. -/
def Has (b : UInt8) (xs : List ByteArray) : Prop := ∃ x ∈ xs, b ∈ x.data.toList
end Go.Proofs.Ythkafalpjokfeaa
