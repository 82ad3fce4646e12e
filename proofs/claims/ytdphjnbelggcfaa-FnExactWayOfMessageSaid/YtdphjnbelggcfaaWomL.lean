/-
  Plain: the nodes of a message, the sum of the ways between each and the next. No program. Used by the claims on chapter 9.
-/
import Derived.Test.YtdphjnbelggcfaaNodL
import Derived.Test.YtdphjnbelggcfaaTableL
namespace Go.Proofs.Ytdphjnbelggcfaa

theorem msg_signN {n : Nat} : ∀ {b : Bool} {m : Bs}, msgGo n b m = true → ∀ u ∈ m, u = 32 ∨ inRow n u = true
  | _, [], _, u, hu => by cases hu
  | b, c :: r, h, u, hu => by
    by_cases hc : c = 32
    · subst hc
      rw [msgGo_space, Bool.and_eq_true] at h
      rcases List.mem_cons.1 hu with rfl | hu
      · exact .inl rfl
      · exact msg_signN h.2 u hu
    · rw [msgGo_row hc, Bool.and_eq_true] at h
      rcases List.mem_cons.1 hu with rfl | hu
      · exact .inr h.1
      · exact msg_signN h.2 u hu
theorem msg_signM {n : Nat} {m : Bs} (h : msgL n m = true) : m.length ≤ 12 ∧ ∀ u ∈ m, u = 32 ∨ inRow n u = true := by
  simp only [msgL, Bool.and_eq_true, Bool.or_eq_true, decide_eq_true_eq] at h
  refine ⟨h.1, fun u hu => ?_⟩
  rcases h.2 with h2 | h2
  · rw [List.isEmpty_iff] at h2; subst h2; cases hu
  · exact msg_signN h2 u hu
/-- The node of a letter of a message, nothing for a gap. -/
def mnC (xs : List ByteArray) (u : UInt8) : List Nat := if u = 32 then [] else [nd (bl (xs.getD (u.toNat - 97) ⟨#[]⟩))]
def mnL (xs : List ByteArray) (m : Bs) : List Nat := m.flatMap (mnC xs)
theorem mn_succ {xs : List ByteArray} {m : Bs} {k : Nat} {u : UInt8} (h : m[k]? = some u) : mnL xs (m.take (k + 1)) = mnL xs (m.take k) ++ mnC xs u := by
  unfold mnL
  rw [List.take_add_one, h, List.flatMap_append]; simp
theorem mn_len (xs : List ByteArray) : ∀ m : Bs, (mnL xs m).length ≤ m.length
  | [] => by simp [mnL]
  | c :: r => by
    have h1 := mn_len xs r
    have e : mnL xs (c :: r) = mnC xs c ++ mnL xs r := by simp [mnL]
    rw [e, List.length_append, List.length_cons]
    unfold mnC
    split <;> simp <;> omega
/-- A sum of ways and the last node, 0 at the beginning. -/
def wst (s : Nat × Nat) (x : Nat) : Nat × Nat := (if 0 < s.2 then s.1 + (wayN s.2 x).2 else s.1, x)
def wf (l : List Nat) : Nat × Nat := l.foldl wst (0, 0)
theorem wf_snoc (l : List Nat) (x : Nat) : wf (l ++ [x]) = wst (wf l) x := by simp [wf, List.foldl_append]
theorem wf_take {l : List Nat} {k x : Nat} (h : l[k]? = some x) : wf (l.take (k + 1)) = wst (wf (l.take k)) x := by
  rw [List.take_add_one, h]; exact wf_snoc _ _
/-- What is kept: the last node is a node or 0, the sum is small. -/
theorem wf_le (l : List Nat) (h : ∀ x ∈ l, 1 ≤ x ∧ x ≤ 63) : (wf l).2 ≤ 63 ∧ (wf l).1 ≤ 126 * l.length := by
  have : ∀ k, k ≤ l.length → (wf (l.take k)).2 ≤ 63 ∧ (wf (l.take k)).1 ≤ 126 * k := by
    intro k
    induction k with
    | zero => intro _; simp [wf]
    | succ k ih =>
      intro hk
      have hx := List.getElem?_eq_getElem (l := l) (i := k) (by omega)
      have hb := h _ (List.getElem_mem (l := l) (n := k) (by omega))
      have i := ih (by omega)
      rw [wf_take hx]
      unfold wst
      have := (wayN_le (wf (l.take k)).2 l[k]).1
      refine ⟨hb.2, ?_⟩
      simp only
      split <;> omega
  have := this l.length (Nat.le_refl _)
  rwa [List.take_length] at this
theorem wf_last {l : List Nat} {k x : Nat} (h : l[k]? = some x) : (wf (l.take (k + 1))).2 = x := by rw [wf_take h]; rfl
end Go.Proofs.Ytdphjnbelggcfaa
