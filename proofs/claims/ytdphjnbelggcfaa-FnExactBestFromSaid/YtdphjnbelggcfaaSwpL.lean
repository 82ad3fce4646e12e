/-
  Plain: the swap that lowers a cost most. Used by the claims on chapter 8.
-/
import Derived.Test.YtdphjnbelggcfaaWgL
import Derived.IntWalk
namespace Go.Proofs.Ytdphjnbelggcfaa
open Go.RowKit
set_option linter.unusedVariables false

def gain (u t : Nat → Nat) (i j : Nat) : Int := ((u i : Int) - (u j : Int)) * ((t i : Int) - (t j : Int))
def swS (u t : Nat → Nat) (s : (Nat × Nat) × Int) (i j : Nat) : (Nat × Nat) × Int := if s.2 < gain u t i j then ((i, j), gain u t i j) else s
def swIn (u t : Nat → Nat) (i : Nat) (s : (Nat × Nat) × Int) : Nat → (Nat × Nat) × Int
  | 0 => s
  | k + 1 => swS u t (swIn u t i s k) i (i + 1 + k)
def swOut (u t : Nat → Nat) (n : Nat) : Nat → (Nat × Nat) × Int
  | 0 => ((0, 0), 0)
  | i + 1 => swIn u t i (swOut u t n i) (n - 1 - i)
def swR (u t : Nat → Nat) (n : Nat) : (Nat × Nat) × Int := swOut u t n n

theorem mul_abs {a b A B : Int} (ha : -A ≤ a ∧ a ≤ A) (hb : -B ≤ b ∧ b ≤ B) (hA : 0 ≤ A) (hB : 0 ≤ B) : -(A * B) ≤ a * b ∧ a * b ≤ A * B := by
  have h1 : a.natAbs ≤ A.natAbs := by omega
  have h2 : b.natAbs ≤ B.natAbs := by omega
  have h3 : (a * b).natAbs ≤ (A * B).natAbs := by rw [Int.natAbs_mul, Int.natAbs_mul]; exact Nat.mul_le_mul h1 h2
  have h4 : 0 ≤ A * B := Int.mul_nonneg hA hB
  omega
theorem gain_le {x y s t : Nat} (hx : x ≤ 99) (hy : y ≤ 99) (hs : s ≤ 19) (ht : t ≤ 19) : -1881 ≤ ((x : Int) - y) * ((s : Int) - t) ∧ ((x : Int) - y) * ((s : Int) - t) ≤ 1881 := by
  have := mul_abs (a := (x : Int) - y) (b := (s : Int) - t) (A := 99) (B := 19) (by omega) (by omega) (by omega) (by omega)
  omega
theorem gain_wrap {x y s t : Nat} (hx : x ≤ 99) (hy : y ≤ 99) (hs : s ≤ 19) (ht : t ≤ 19) : ∃ d1 d2 p : Int, p = ((x : Int) - y) * ((s : Int) - t) ∧ -1881 ≤ p ∧ p ≤ 1881 ∧
    IntKind.i64.wrap ((x : Int) - (y : Int)) = d1 ∧ wrap64 ((x : Int) - (y : Int)) = d1 ∧ IntKind.i64.wrap ((s : Int) - (t : Int)) = d2 ∧ wrap64 ((s : Int) - (t : Int)) = d2 ∧ IntKind.i64.wrap (d1 * d2) = p ∧ wrap64 (d1 * d2) = p := by
  have h := gain_le hx hy hs ht
  refine ⟨(x : Int) - y, (s : Int) - t, _, rfl, h.1, h.2, IntWalk.i64_in _ (by omega), IntWalk.wrap64_in _ (by omega), IntWalk.i64_in _ (by omega), IntWalk.wrap64_in _ (by omega), ?_, ?_⟩
  · generalize ((x : Int) - y) * ((s : Int) - t) = p at h
    exact IntWalk.i64_in _ (by omega)
  · generalize ((x : Int) - y) * ((s : Int) - t) = p at h
    exact IntWalk.wrap64_in _ (by omega)

theorem swS_le {u t : Nat → Nat} {s : (Nat × Nat) × Int} {i j n : Nat} (hu : ∀ k, u k ≤ 99) (ht : ∀ k, k < n → t k ≤ 19) (hi : i < n) (hj : j < n) (h : (s.1.1 < n ∧ s.1.2 < n) ∧ 0 ≤ s.2 ∧ s.2 ≤ 1881) : ((swS u t s i j).1.1 < n ∧ (swS u t s i j).1.2 < n) ∧ 0 ≤ (swS u t s i j).2 ∧ (swS u t s i j).2 ≤ 1881 := by
  unfold swS
  split
  · rename_i hlt
    have := gain_le (hu i) (hu j) (ht i hi) (ht j hj)
    exact ⟨⟨hi, hj⟩, by show 0 ≤ gain u t i j; omega, this.2⟩
  · exact h
theorem swIn_le {u t : Nat → Nat} {s : (Nat × Nat) × Int} {i n : Nat} (hu : ∀ k, u k ≤ 99) (ht : ∀ k, k < n → t k ≤ 19) (h : (s.1.1 < n ∧ s.1.2 < n) ∧ 0 ≤ s.2 ∧ s.2 ≤ 1881) : ∀ k, i + k < n → ((swIn u t i s k).1.1 < n ∧ (swIn u t i s k).1.2 < n) ∧ 0 ≤ (swIn u t i s k).2 ∧ (swIn u t i s k).2 ≤ 1881
  | 0, _ => h
  | k + 1, hk => swS_le (n := n) (j := i + 1 + k) hu ht (by omega) (by omega) (swIn_le hu ht h k (by omega))
theorem swOut_le {u t : Nat → Nat} {n : Nat} (hu : ∀ k, u k ≤ 99) (ht : ∀ k, k < n → t k ≤ 19) : ∀ i, i ≤ n → 0 < n → ((swOut u t n i).1.1 < n ∧ (swOut u t n i).1.2 < n) ∧ 0 ≤ (swOut u t n i).2 ∧ (swOut u t n i).2 ≤ 1881
  | 0, _, h0 => ⟨⟨h0, h0⟩, by simp [swOut], by simp [swOut]⟩
  | i + 1, hi, h0 => swIn_le hu ht (swOut_le hu ht i (by omega) h0) (n - 1 - i) (by omega)
theorem swIn_step (u t : Nat → Nat) (i j : Nat) (s : (Nat × Nat) × Int) (h : i < j) : swIn u t i s (j + 1 - i - 1) = swS u t (swIn u t i s (j - i - 1)) i j := by
  have e : j + 1 - i - 1 = (j - i - 1) + 1 := by omega
  rw [e, swIn]
  congr 1
  omega
/-- A swap that lowers is one of two letters, the less one first, and lowers by what it says. -/
def SwOk (u t : Nat → Nat) (n : Nat) (s : (Nat × Nat) × Int) : Prop := s.2 = 0 ∨ (s.1.1 < s.1.2 ∧ s.1.2 < n ∧ s.2 = gain u t s.1.1 s.1.2 ∧ 0 < s.2)
theorem swS_ok {u t : Nat → Nat} {n i j : Nat} {s : (Nat × Nat) × Int} (h0 : 0 ≤ s.2) (h : SwOk u t n s) (hij : i < j) (hj : j < n) : SwOk u t n (swS u t s i j) ∧ 0 ≤ (swS u t s i j).2 := by
  unfold swS
  split
  · rename_i hlt
    exact ⟨.inr ⟨hij, hj, rfl, by show 0 < gain u t i j; omega⟩, by show 0 ≤ gain u t i j; omega⟩
  · exact ⟨h, h0⟩
theorem swIn_ok {u t : Nat → Nat} {n i : Nat} {s : (Nat × Nat) × Int} (h0 : 0 ≤ s.2) (h : SwOk u t n s) : ∀ k, i + k < n → SwOk u t n (swIn u t i s k) ∧ 0 ≤ (swIn u t i s k).2
  | 0, _ => ⟨h, h0⟩
  | k + 1, hk => by
    have := swIn_ok (i := i) h0 h k (by omega)
    exact swS_ok (j := i + 1 + k) this.2 this.1 (by omega) (by omega)
theorem swOut_ok {u t : Nat → Nat} {n : Nat} (hn : 0 < n) : ∀ i, i ≤ n → SwOk u t n (swOut u t n i) ∧ 0 ≤ (swOut u t n i).2
  | 0, _ => ⟨.inl rfl, by simp [swOut]⟩
  | i + 1, hi => by
    have := swOut_ok (u := u) (t := t) hn i (by omega)
    exact swIn_ok this.2 this.1 (n - 1 - i) (by omega)
end Go.Proofs.Ytdphjnbelggcfaa
