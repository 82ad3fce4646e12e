/-
  Plain lists: cutting a text at one sign, as Go's library says it. Used by the claims on chapter 2.
-/
import Derived.Test.YtekgmdigchobbaaTabT
import Derived.Lib.SplitLaws
namespace Go.Proofs.Ytekgmdigchobbaa
set_option linter.unusedVariables false

theorem index_next {b c : UInt8} (h : b ≠ c) (l : Bs) : Lib.index (b :: l) [c] = if Lib.index l [c] == -1 then -1 else Lib.index l [c] + 1 := by
  have hp : ([c] : List UInt8).isPrefixOf (b :: l) = false := by simp [List.isPrefixOf, Ne.symm h]
  rw [Lib.index, hp]; simp
theorem index_here (c : UInt8) (l : Bs) : Lib.index (c :: l) [c] = 0 := by rw [Lib.index]; simp [List.isPrefixOf]
theorem index_is {c : UInt8} : ∀ {l : Bs}, 0 < l.count c → ∃ i : Nat, Lib.index l [c] = i
  | [], h => by simp at h
  | b :: l, h => by
    by_cases e : b = c
    · subst e; exact ⟨0, index_here _ _⟩
    · obtain ⟨i, hi⟩ := index_is (l := l) (c := c) (by rw [List.count_cons_of_ne (by simpa using e)] at h; exact h)
      refine ⟨i + 1, ?_⟩
      rw [index_next e, hi, if_neg (by simp)]; omega
theorem splitK_L (c : UInt8) : ∀ s : Bs, Lib.splitK [c] 0 (s.count c) s = splitL c s
  | [] => rfl
  | b :: r => by
    have ih := splitK_L c r
    by_cases e : b = c
    · subst e
      rw [List.count_cons_self, splitL_hit, ← ih]
      conv => lhs; unfold Lib.splitK
      rw [index_here]
      simp
    · rw [List.count_cons_of_ne (by simpa using e)]
      obtain ⟨x, xs, hx⟩ := splitL_cons c r
      rw [splitL_miss e hx]
      rw [hx] at ih
      cases hn : r.count c with
      | zero =>
        rw [hn] at ih
        have ih2 : [r] = x :: xs := ih
        injection ih2 with h1 h2
        subst h1; subst h2; rfl
      | succ k =>
        obtain ⟨i, hi⟩ := index_is (l := r) (c := c) (by omega)
        rw [hn] at ih
        unfold Lib.splitK at ih ⊢
        have hne : ¬ ((i : Int) == -1) = true := by simp
        rw [hi, if_neg hne] at ih
        have hi2 : Lib.index (b :: r) [c] = ((i + 1 : Nat) : Int) := by rw [index_next e, hi, if_neg hne]; omega
        rw [hi2, if_neg (by simp; omega)]
        simp only [Int.toNat_natCast, List.length_singleton, Nat.add_zero, List.cons.injEq] at ih ⊢
        obtain ⟨h1, h2⟩ := ih
        exact ⟨by rw [List.take_succ_cons, h1], by rw [← h2, List.drop_succ_cons]⟩
theorem splitB_L (s : ByteArray) (c : UInt8) : (Lib.splitB ⟨#[c]⟩ 0 (Lib.countB s ⟨#[c]⟩) s).map bl = splitL c (bl s) := by
  have h1 := Lib.splitB_data ⟨#[c]⟩ 0 (Lib.countB s ⟨#[c]⟩) s
  have h2 : Lib.countB s ⟨#[c]⟩ = (bl s).count c := Lib.count_one c _
  show (Lib.splitB _ _ _ s).map (fun x => x.data.toList) = _
  rw [h1, h2]
  exact splitK_L c (bl s)
end Go.Proofs.Ytekgmdigchobbaa
