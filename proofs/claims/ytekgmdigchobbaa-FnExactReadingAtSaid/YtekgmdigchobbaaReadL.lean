/-
  Plain: the reading before which there are k readings. Used by the claims on chapter 3.
-/
import Derived.Test.YtekgmdigchobbaaWayS
namespace Go.Proofs.Ytekgmdigchobbaa
set_option linter.unusedVariables false

def pickI (xs : List ByteArray) (s : ByteArray) (p k : Nat) : Nat := ((List.range xs.length).find? fun i => decide (k < wayPart xs s p (i + 1))).getD 0
def rdL (xs : List ByteArray) (s : ByteArray) : Nat → Nat → Nat → Bs
  | 0, _, _ => []
  | n + 1, p, k => if p < s.size then UInt8.ofNat (97 + pickI xs s p k) :: rdL xs s n (p + (xs.getD (pickI xs s p k) ⟨#[]⟩).size) (k - wayPart xs s p (pickI xs s p k)) else []
theorem wayPart_mono (xs : List ByteArray) (s : ByteArray) (p : Nat) {i j : Nat} (h : i ≤ j) : wayPart xs s p i ≤ wayPart xs s p j := by
  unfold wayPart
  have h1 := wsum_take_le ((xs.map bl).take j) i ((bl s).drop p) (fun n => wayAt xs s (p + n))
  rwa [List.take_take, show min i j = i by omega] at h1
theorem pickI_eq {xs : List ByteArray} {s : ByteArray} {p k i : Nat} (hi : i < xs.length) (h1 : wayPart xs s p i ≤ k) (h2 : k < wayPart xs s p (i + 1)) : pickI xs s p k = i := by
  unfold pickI
  have : (List.range xs.length).find? (fun i => decide (k < wayPart xs s p (i + 1))) = some i := by
    rw [List.find?_eq_some_iff_getElem]
    refine ⟨decide_eq_true h2, i, by simpa using hi, by simp, fun j hj => ?_⟩
    have h3 := wayPart_mono xs s p (show j + 1 ≤ i by omega)
    simp
    omega
  rw [this]; rfl
theorem rdL_end (xs : List ByteArray) (s : ByteArray) (n k : Nat) : rdL xs s n s.size k = [] := by
  cases n with
  | zero => rfl
  | succ n => rw [rdL, if_neg (Nat.lt_irrefl _)]
theorem rdL_step {xs : List ByteArray} {s : ByteArray} {n p k i : Nat} {x : ByteArray} (hp : p < s.size) (hx : xs[i]? = some x) (h1 : wayPart xs s p i ≤ k) (h2 : k < wayPart xs s p (i + 1)) : rdL xs s (n + 1) p k = UInt8.ofNat (97 + i) :: rdL xs s n (p + x.size) (k - wayPart xs s p i) := by
  have hi : i < xs.length := (List.getElem?_eq_some_iff.1 hx).1
  rw [rdL, if_pos hp, pickI_eq hi h1 h2, List.getD_eq_getElem?_getD, hx]; rfl
/-- A letter is taken: it stands, and the rest has more readings than are left before it. -/
theorem take_facts {xs : List ByteArray} {s : ByteArray} {p k i : Nat} {x : ByteArray} (hx : xs[i]? = some x) (h1 : wayPart xs s p i ≤ k) (hst : stands s x p = true) (h2 : k - wayPart xs s p i < wayAt xs s (p + x.size)) : k < wayPart xs s p (i + 1) := by
  rw [wayPart_succ xs s p i x hx, if_pos hst]; omega
end Go.Proofs.Ytekgmdigchobbaa
