/-
  Plain facts on joined texts: parts without the separator are told by their joined text; what a sealed text is opened as. No program. Used by the claims on VerifyChecksum, FnStrings, FnSplitJoin.
-/
import Derived.Test.YtppiocjmhlgjoaaDoorSplitL
import Derived.Test.YtppiocjmhlgjoaaDoorSumL
import Derived.Lib.ItoaNum
namespace Go.Proofs.YtppiocjmhlgjoaaDoor

theorem cut_unique (b : UInt8) : ∀ (x y R Q : List UInt8), b ∉ x → b ∉ y → (R = [] ∨ ∃ R', R = b :: R') → (Q = [] ∨ ∃ Q', Q = b :: Q') → x ++ R = y ++ Q → x = y ∧ R = Q
  | [], [], R, Q, _, _, _, _, h => ⟨rfl, h⟩
  | [], c :: y, R, Q, _, hy, hR, _, h => by
    rcases hR with rfl | ⟨R', rfl⟩
    · simp at h
    · simp at h; exact absurd (by simp [h.1]) hy
  | c :: x, [], R, Q, hx, _, _, hQ, h => by
    rcases hQ with rfl | ⟨Q', rfl⟩
    · simp at h
    · simp at h; exact absurd (by simp [h.1]) hx
  | c :: x, d :: y, R, Q, hx, hy, hR, hQ, h => by
    simp only [List.cons_append, List.cons.injEq] at h
    obtain ⟨e1, e2⟩ := cut_unique b x y R Q (fun h => hx (by simp [h])) (fun h => hy (by simp [h])) hR hQ h.2
    exact ⟨by rw [h.1, e1], e2⟩
theorem joinTail_head (b : UInt8) (r : List (List UInt8)) : Lib.joinTail [b] r = [] ∨ ∃ q, Lib.joinTail [b] r = b :: q := by
  cases r with
  | nil => exact .inl rfl
  | cons z r => exact .inr ⟨z ++ Lib.joinTail [b] r, by simp [Lib.joinTail]⟩
theorem joinTail_inj (b : UInt8) : ∀ (r q : List (List UInt8)), (∀ x ∈ r, b ∉ x) → (∀ x ∈ q, b ∉ x) → Lib.joinTail [b] r = Lib.joinTail [b] q → r = q
  | [], [], _, _, _ => rfl
  | [], z :: q, _, _, h => by simp [Lib.joinTail] at h
  | z :: r, [], _, _, h => by simp [Lib.joinTail] at h
  | z :: r, y :: q, hr, hq, h => by
    have e : ∀ (z : List UInt8) (r : List (List UInt8)), Lib.joinTail [b] (z :: r) = b :: (z ++ Lib.joinTail [b] r) := fun z r => by simp [Lib.joinTail]
    rw [e, e] at h
    obtain ⟨e1, e2⟩ := cut_unique b z y _ _ (hr z (by simp)) (hq y (by simp)) (joinTail_head b r) (joinTail_head b q) (List.cons.inj h).2
    rw [e1, joinTail_inj b r q (fun x hx => hr x (by simp [hx])) (fun x hx => hq x (by simp [hx])) e2]
theorem join_inj (b : UInt8) (xs ys : List (List UInt8)) (h0 : xs ≠ []) (h1 : ys ≠ []) (hx : ∀ x ∈ xs, b ∉ x) (hy : ∀ x ∈ ys, b ∉ x) (h : Lib.join xs [b] = Lib.join ys [b]) : xs = ys := by
  cases xs with
  | nil => exact absurd rfl h0
  | cons x r =>
    cases ys with
    | nil => exact absurd rfl h1
    | cons y q =>
      rw [Lib.join_cons, Lib.join_cons] at h
      obtain ⟨e1, e2⟩ := cut_unique b x y _ _ (hx x (by simp)) (hy y (by simp)) (joinTail_head b r) (joinTail_head b q) h
      rw [e1, joinTail_inj b r q (fun x hx' => hx x (by simp [hx'])) (fun x hx' => hy x (by simp [hx'])) e2]

theorem split_of_joined (s : ByteArray) (b : UInt8) (ys : List ByteArray) (h0 : ys ≠ []) (hy : ¬ Has b ys) (h : joined ys b = s.data.toList) : splitS s b = ys := by
  have h1 := splitS_has s b
  have h2 := splitS_joined s b
  have hne : splitS s b ≠ [] := fun e => by have := (splitS_len s b).1; rw [e] at this; simp at this
  have key : (splitS s b).map (·.data.toList) = ys.map (·.data.toList) := by
    apply join_inj b _ _ (by simpa using hne) (by simpa using h0)
    · intro x hx hb
      obtain ⟨y, hy, rfl⟩ := List.mem_map.1 hx
      exact h1 ⟨y, hy, hb⟩
    · intro x hx hb
      obtain ⟨y, hy', rfl⟩ := List.mem_map.1 hx
      exact hy ⟨y, hy', hb⟩
    · exact h2.trans h.symm
  have inj : Function.Injective (fun x : ByteArray => x.data.toList) := fun a c e => ByteArray.ext (Array.toList_inj.1 e)
  exact (List.map_inj_right inj).1 key
theorem split_pair (s t u : ByteArray) (b : UInt8) (ht : b ∉ t.data.toList) (hu : b ∉ u.data.toList) (h : s.data.toList = t.data.toList ++ b :: u.data.toList) : splitS s b = [t, u] :=
  split_of_joined s b [t, u] (by simp) (fun ⟨x, hx, hb⟩ => by
    simp only [List.mem_cons, List.not_mem_nil, or_false] at hx
    rcases hx with rfl | rfl
    · exact ht hb
    · exact hu hb) (by rw [h]; simp [joined, Lib.join, List.intercalate])
end Go.Proofs.YtppiocjmhlgjoaaDoor
