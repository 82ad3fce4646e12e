/-
  Plain: swaps one after the other, until none lowers the cost. Used by the claims on chapter 8.
-/
import Derived.Test.YtdphjnbelggcfaaSwpL
namespace Go.Proofs.Ytdphjnbelggcfaa
open Go.RowKit
set_option linter.unusedVariables false

/-- Two letters exchange their marks. -/
def sw2 (xs : List ByteArray) (i j : Nat) : List ByteArray := (xs.set i (xs.getD j ⟨#[]⟩)).set j (xs.getD i ⟨#[]⟩)
theorem sw2_len (xs : List ByteArray) (i j : Nat) : (sw2 xs i j).length = xs.length := by simp [sw2]
theorem sw2_at {xs : List ByteArray} {i j k : Nat} (hi : i < xs.length) (hj : j < xs.length) (hk : k < xs.length) : (sw2 xs i j).getD k ⟨#[]⟩ = if k = j then xs.getD i ⟨#[]⟩ else if k = i then xs.getD j ⟨#[]⟩ else xs.getD k ⟨#[]⟩ := by
  unfold sw2
  simp only [List.getD_eq_getElem?_getD, List.getElem?_set, List.length_set]
  by_cases e1 : k = j
  · subst e1; simp [hk]
  · rw [if_neg (fun e => e1 e.symm), if_neg e1]
    by_cases e2 : k = i
    · subst e2; simp [hk]
    · rw [if_neg (fun e => e2 e.symm), if_neg e2]
theorem sw2_mem {xs : List ByteArray} {i j : Nat} (hi : i < xs.length) (hj : j < xs.length) {P : ByteArray → Prop} (h : ∀ x ∈ xs, P x) : ∀ x ∈ sw2 xs i j, P x := fun x hx => by
  unfold sw2 at hx
  rcases List.mem_or_eq_of_mem_set hx with hx | rfl
  · rcases List.mem_or_eq_of_mem_set hx with hx | rfl
    · exact h x hx
    · rw [List.getD_eq_getElem?_getD, List.getElem?_eq_getElem hj]; exact h _ (List.getElem_mem hj)
  · rw [List.getD_eq_getElem?_getD, List.getElem?_eq_getElem hi]; exact h _ (List.getElem_mem hi)
theorem cst_sw {u t t' : Nat → Nat} {i j : Nat} (hij : i < j) (h : ∀ k, t' k = if k = j then t i else if k = i then t j else t k) : ∀ n, (cst u t' n : Int) = (cst u t n : Int) + (if i < n then (u i : Int) * ((t j : Int) - t i) else 0) + (if j < n then (u j : Int) * ((t i : Int) - t j) else 0)
  | 0 => by simp [cst]
  | n + 1 => by
    have ih := cst_sw (u := u) hij h n
    unfold cst
    rw [Int.natCast_add, Int.natCast_add, ih, Int.natCast_mul, Int.natCast_mul, h n]
    by_cases e1 : n = j
    · subst e1
      have h2 : ¬ n < n := by omega
      have h3 : i < n + 1 := by omega
      have h4 : n < n + 1 := by omega
      rw [if_pos rfl, if_pos hij, if_neg h2, if_pos h3, if_pos h4, Int.mul_sub, Int.mul_sub]
      omega
    · rw [if_neg e1]
      by_cases e2 : n = i
      · subst e2
        have h1 : ¬ n < n := by omega
        have h2 : ¬ j < n := by omega
        have h3 : n < n + 1 := by omega
        have h4 : ¬ j < n + 1 := by omega
        rw [if_pos rfl, if_neg h1, if_neg h2, if_pos h3, if_neg h4, Int.mul_sub]
        omega
      · rw [if_neg e2]
        have a1 : (i < n) = (i < n + 1) := propext ⟨fun h => by omega, fun h => by omega⟩
        have a2 : (j < n) = (j < n + 1) := propext ⟨fun h => by omega, fun h => by omega⟩
        simp only [a1, a2]
        omega
theorem cst_gain {u : Nat → Nat} {xs : List ByteArray} {i j : Nat} (hij : i < j) (hj : j < xs.length) : (cst u (tAt (sw2 xs i j)) xs.length : Int) = (cst u (tAt xs) xs.length : Int) - gain u (tAt xs) i j := by
  have e : cst u (tAt (sw2 xs i j)) xs.length = cst u (fun k => if k = j then tAt xs i else if k = i then tAt xs j else tAt xs k) xs.length := cst_congr _ fun k hk => ⟨rfl, by
    unfold tAt
    rw [sw2_at (by omega) hj hk]
    by_cases e1 : k = j
    · rw [if_pos e1, if_pos e1]
    · rw [if_neg e1, if_neg e1]
      by_cases e2 : k = i
      · rw [if_pos e2, if_pos e2]
      · rw [if_neg e2, if_neg e2]⟩
  rw [e, cst_sw (u := u) (t := tAt xs) hij (fun k => rfl), if_pos (by omega), if_pos hj]
  unfold gain
  rw [Int.sub_mul, Int.mul_sub, Int.mul_sub, Int.mul_sub]
  omega

/-- How many swaps there are, with fuel. -/
def swF (u : Nat → Nat) : Nat → List ByteArray → Nat
  | 0, _ => 0
  | f + 1, xs => if (swR u (tAt xs) xs.length).2 = 0 then 0 else 1 + swF u f (sw2 xs (swR u (tAt xs) xs.length).1.1 (swR u (tAt xs) xs.length).1.2)
theorem swF_end {u : Nat → Nat} {f : Nat} {xs : List ByteArray} (h : (swR u (tAt xs) xs.length).2 = 0) : swF u f xs = 0 := by
  cases f with
  | zero => rfl
  | succ f => rw [swF, if_pos h]
/-- One swap: what is left. -/
theorem swF_step {u : Nat → Nat} {f : Nat} {xs : List ByteArray} {i j : Nat} {z : Int} (h0 : 0 < xs.length) (h : swR u (tAt xs) xs.length = ((i, j), z)) (hz : z ≠ 0) (hc : cst u (tAt xs) xs.length ≤ f) :
    i < j ∧ j < xs.length ∧ ∃ f', f = f' + 1 ∧ cst u (tAt (sw2 xs i j)) xs.length ≤ f' ∧ swF u f xs = 1 + swF u f' (sw2 xs i j) := by
  have hok := (swOut_ok (u := u) (t := tAt xs) h0 xs.length (Nat.le_refl _)).1
  change SwOk u (tAt xs) xs.length (swR u (tAt xs) xs.length) at hok
  rw [h] at hok
  rcases hok with h1 | ⟨h1, h2, h3, h4⟩
  · exact absurd h1 hz
  · simp only at h1 h2 h3 h4
    have hg := cst_gain (u := u) h1 h2
    rw [← h3] at hg
    refine ⟨h1, h2, f - 1, by omega, by omega, ?_⟩
    obtain ⟨f', rfl⟩ : ∃ f', f = f' + 1 := ⟨f - 1, by omega⟩
    rw [swF, h, if_neg hz, Nat.add_sub_cancel]
theorem swR_pos {u : Nat → Nat} {xs : List ByteArray} (h0 : 0 < xs.length) : 0 ≤ (swR u (tAt xs) xs.length).2 := (swOut_ok (u := u) (t := tAt xs) h0 xs.length (Nat.le_refl _)).2
end Go.Proofs.Ytdphjnbelggcfaa
