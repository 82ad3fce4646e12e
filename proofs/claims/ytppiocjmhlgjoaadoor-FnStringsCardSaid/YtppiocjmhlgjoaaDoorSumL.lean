/-
  Plain mathematics of the checksum: no program. Used by the claims on Checksum, AppendChecksum, VerifyChecksum.
-/
import Derived.WalkKit
namespace Go.Proofs.YtppiocjmhlgjoaaDoor
/-- The checksum of a list of bytes, begun at h. -/
def sumFrom (h : Int) : List UInt8 → Int
  | [] => h
  | c :: r => sumFrom ((41 * h + (c.toNat : Int) + 1) % 999979) r
def sumL (l : List UInt8) : Int := sumFrom 7 l

theorem sumFrom_append (h : Int) (l r : List UInt8) : sumFrom h (l ++ r) = sumFrom (sumFrom h l) r := by
  induction l generalizing h with
  | nil => rfl
  | cons c l ih => simp only [List.cons_append, sumFrom]; exact ih _
theorem sumFrom_bd (h : Int) (l : List UInt8) (h0 : 0 ≤ h) (h1 : h < 999979) : 0 ≤ sumFrom h l ∧ sumFrom h l < 999979 := by
  induction l generalizing h with
  | nil => exact ⟨h0, h1⟩
  | cons c l ih => exact ih _ (by omega) (by omega)
theorem sumL_bd (l : List UInt8) : 0 ≤ sumL l ∧ sumL l < 999979 := sumFrom_bd 7 l (by omega) (by omega)
theorem sumL_snoc (l : List UInt8) (c : UInt8) : sumL (l ++ [c]) = (41 * sumL l + (c.toNat : Int) + 1) % 999979 := by
  unfold sumL; rw [sumFrom_append]; rfl
theorem take_snoc (s : ByteArray) (k : Nat) (h : k < s.size) : s.data.toList.take (k + 1) = s.data.toList.take k ++ [s[k]] := by
  rw [List.take_succ_eq_append_getElem (by simpa using h)]; rfl
theorem ret_int {k : IntKind} {a b : Int} (h : a = b) : Ending.returned (.int k a) = .returned (.int k b) := by rw [h]
end Go.Proofs.YtppiocjmhlgjoaaDoor
