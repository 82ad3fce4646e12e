/-
  Plain facts on splitting a text at a byte. No program. Used by the claims on SplitString, VerifyChecksum, FnStrings, FnSplitJoin.
-/
import Derived.Test.YthkafalpjokfeaaTextL
namespace Go.Proofs.Ythkafalpjokfeaa

/-- What has been cut off when k bytes have been read, and where the next part begins. -/
def cutAt (s : ByteArray) (b : UInt8) : Nat → List ByteArray × Nat
  | 0 => ([], 0)
  | k + 1 => if s.data.toList[k]? = some b then ((cutAt s b k).1 ++ [s.extract (cutAt s b k).2 k], k + 1) else cutAt s b k
def splitS (s : ByteArray) (b : UInt8) : List ByteArray := (cutAt s b s.size).1 ++ [s.extract (cutAt s b s.size).2 s.size]

theorem cutAt_hit (s : ByteArray) (b : UInt8) (k : Nat) (h : s.data.toList[k]? = some b) : cutAt s b (k + 1) = ((cutAt s b k).1 ++ [s.extract (cutAt s b k).2 k], k + 1) := by rw [cutAt, if_pos h]
theorem cutAt_miss (s : ByteArray) (b : UInt8) (k : Nat) (h : s.data.toList[k]? ≠ some b) : cutAt s b (k + 1) = cutAt s b k := by rw [cutAt, if_neg h]
theorem cutAt_le (s : ByteArray) (b : UInt8) (k : Nat) : (cutAt s b k).2 ≤ k ∧ (cutAt s b k).1.length ≤ k := by
  induction k with
  | zero => simp [cutAt]
  | succ k ih =>
    unfold cutAt
    split
    · simp; omega
    · omega
theorem splitS_len (s : ByteArray) (b : UInt8) : 1 ≤ (splitS s b).length ∧ (splitS s b).length ≤ s.size + 1 := by
  have := (cutAt_le s b s.size).2
  simp [splitS]; omega
theorem byte_at (s : ByteArray) (k : Nat) (h : k < s.size) : s.data.toList[k]? = some s[k] := by
  rw [List.getElem?_eq_getElem (by simpa using h)]; rfl
theorem ext_list (s : ByteArray) (a b : Nat) : (s.extract a b).data.toList = (s.data.toList.take b).drop a := by
  simp [ByteArray.data_extract, List.drop_take]

/-- The parts hold no separator; joined they are the text. -/
theorem cutAt_ok (s : ByteArray) (b : UInt8) (k : Nat) (hk : k ≤ s.size) :
    (¬ Has b (cutAt s b k).1) ∧ (b ∉ (s.data.toList.take k).drop (cutAt s b k).2) ∧ ((cutAt s b k).1.map (fun x => x.data.toList ++ [b])).flatten = s.data.toList.take (cutAt s b k).2 := by
  induction k with
  | zero => simp [cutAt, Has]
  | succ k ih =>
    obtain ⟨h1, h2, h3⟩ := ih (by omega)
    have hl := (cutAt_le s b k).1
    by_cases h : s.data.toList[k]? = some b
    · rw [cutAt_hit s b k h]
      refine ⟨?_, by simp, ?_⟩
      · rintro ⟨x, hx, hb⟩
        rcases List.mem_append.1 hx with hx | hx
        · exact h1 ⟨x, hx, hb⟩
        · simp only [List.mem_singleton] at hx
          subst hx
          rw [ext_list] at hb
          exact h2 hb
      · simp only [List.map_append, List.map_cons, List.map_nil, List.flatten_append, List.flatten_cons, List.flatten_nil, List.append_nil, h3, ext_list]
        rw [← List.append_assoc, List.take_add_one, h]
        congr 1
        have : List.take (cutAt s b k).2 s.data.toList = List.take (cutAt s b k).2 (List.take k s.data.toList) := by rw [List.take_take, Nat.min_eq_left hl]
        rw [this, List.take_append_drop]
    · rw [cutAt_miss s b k h]
      refine ⟨h1, ?_, h3⟩
      rw [List.take_add_one]
      intro hm
      rw [List.drop_append] at hm
      rcases List.mem_append.1 hm with hm | hm
      · exact h2 hm
      · have hm2 := List.mem_of_mem_drop hm
        cases hq : s.data.toList[k]? with
        | none => rw [hq] at hm2; simp at hm2
        | some c => rw [hq] at hm2 h; simp at hm2; subst hm2; exact h rfl
theorem splitS_has (s : ByteArray) (b : UInt8) : ¬ Has b (splitS s b) := by
  obtain ⟨h1, h2, _⟩ := cutAt_ok s b s.size (Nat.le_refl _)
  rintro ⟨x, hx, hb⟩
  rcases List.mem_append.1 hx with hx | hx
  · exact h1 ⟨x, hx, hb⟩
  · simp only [List.mem_singleton] at hx
    subst hx
    rw [ext_list] at hb
    exact h2 hb
theorem join_snoc (b : UInt8) : ∀ (xs : List (List UInt8)) (y : List UInt8), Lib.join (xs ++ [y]) [b] = (xs.map (fun x => x ++ [b])).flatten ++ y
  | [], y => by simp [Lib.join_one]
  | x :: r, y => by
    rw [List.cons_append, Lib.join_cons]
    have ih := join_snoc b r y
    cases r with
    | nil => simp [Lib.joinTail]
    | cons z r =>
      rw [List.cons_append, Lib.join_cons] at ih
      simp only [List.map_cons, List.flatten_cons] at ih ⊢
      simp only [Lib.joinTail, List.cons_append, List.map_cons, List.flatten_cons] at ih ⊢
      rw [List.append_assoc, List.append_assoc, ← ih]
      simp
theorem splitS_joined (s : ByteArray) (b : UInt8) : joined (splitS s b) b = s.data.toList := by
  obtain ⟨_, _, h3⟩ := cutAt_ok s b s.size (Nat.le_refl _)
  unfold joined splitS
  rw [List.map_append, List.map_cons, List.map_nil, join_snoc, List.map_map]
  have e : ((fun x : List UInt8 => x ++ [b]) ∘ fun x : ByteArray => x.data.toList) = fun x : ByteArray => x.data.toList ++ [b] := rfl
  rw [e, h3, ext_list]
  have e2 : List.take s.size s.data.toList = s.data.toList := List.take_of_length_le (by simp)
  rw [e2, List.take_append_drop]
end Go.Proofs.Ythkafalpjokfeaa
