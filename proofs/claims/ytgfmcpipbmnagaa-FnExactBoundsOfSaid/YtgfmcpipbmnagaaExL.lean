/-
  Plain facts on the runs of a signal: one behind the other, what they are at each place. No program. Used by the claims on chapter 5.
-/
import Derived.Test.YtgfmcpipbmnagaaTabT
namespace Go.Proofs.Ytgfmcpipbmnagaa
set_option linter.unusedVariables false

/-- Whether there is a mark ahead of a place. -/
def bfMk (l : Bs) (k : Nat) : Bool := decide (0 < k) && isMk (l.getD (k - 1) 0)
/-- The runs of the first k signs: on or off, and how long. -/
def rsTo (l : Bs) : Nat → List (Nat × Nat)
  | 0 => []
  | k + 1 => rsTo l k ++ (if (bfMk l k && isMk (l.getD k 0)) = true then [(0, 1)] else []) ++ [(if isMk (l.getD k 0) = true then 1 else 0, sg (l.getD k 0))]
theorem getD_l {l : Bs} {k : Nat} {c : UInt8} (h : l[k]? = some c) : l.getD k 0 = c := by rw [List.getD_eq_getElem?_getD, h]; rfl
theorem rsTo_succ {l : Bs} {k : Nat} {c : UInt8} (h : l[k]? = some c) : rsTo l (k + 1) = rsTo l k ++ (if (bfMk l k && isMk c) = true then [(0, 1)] else []) ++ [(if isMk c = true then 1 else 0, sg c)] := by
  rw [rsTo, getD_l h]
theorem bfMk_succ {l : Bs} {k : Nat} {c : UInt8} (h : l[k]? = some c) : bfMk l (k + 1) = isMk c := by
  simp [bfMk, h]
theorem rsTo_len (l : Bs) : ∀ k, (rsTo l k).length ≤ 2 * k
  | 0 => Nat.le_refl _
  | k + 1 => by
    have := rsTo_len l k
    rw [rsTo]
    simp only [List.length_append, List.length_singleton]
    split <;> simp <;> omega
theorem sg_bd (c : UInt8) : 1 ≤ sg c ∧ sg c ≤ 7 := by unfold sg; repeat' split
                                                      all_goals omega
theorem rsTo_time (l : Bs) : ∀ k, ∀ p ∈ rsTo l k, 1 ≤ p.2 ∧ p.2 ≤ 7
  | 0, p, hp => by simp [rsTo] at hp
  | k + 1, p, hp => by
    rw [rsTo] at hp
    simp only [List.mem_append, List.mem_singleton] at hp
    rcases hp with (hp | hp) | hp
    · exact rsTo_time l k p hp
    · split at hp
      · simp at hp; subst hp; simp
      · cases hp
    · subst hp; exact sg_bd _
/-- A gap of a signal stands behind a mark. -/
theorem fin_behind (r : Bs) : ∀ (ps : List Bs) (cur : Bs) (qs : List Bs), fin ps cur r = some qs → ∀ k c, r[k]? = some c → isMk c = false → (k = 0 ∧ cur ≠ []) ∨ (0 < k ∧ isMk (r.getD (k - 1) 0) = true) := by
  induction r with
  | nil => intro _ _ _ _ k c hc; simp at hc
  | cons d r ih =>
    intro ps cur qs h k c hc hm
    rw [fin] at h
    by_cases hd : isMk d = true
    · rw [if_pos hd] at h
      cases k with
      | zero =>
        rw [List.getElem?_cons_zero] at hc
        obtain rfl := Option.some.inj hc
        rw [hd] at hm; cases hm
      | succ k =>
        rw [List.getElem?_cons_succ] at hc
        right
        refine ⟨by omega, ?_⟩
        rcases ih _ _ _ h k c hc hm with ⟨rfl, _⟩ | ⟨h0, h2⟩
        · simpa using hd
        · obtain ⟨j, rfl⟩ : ∃ j, k = j + 1 := ⟨k - 1, by omega⟩
          simpa using h2
    · rw [if_neg hd] at h
      split at h
      · next hg =>
        simp only [Bool.and_eq_true, Bool.or_eq_true, decide_eq_true_eq] at hg
        cases k with
        | zero =>
          left
          refine ⟨rfl, fun e => ?_⟩
          have := hg.1.2
          rw [e] at this
          exact absurd this (by decide)
        | succ k =>
          rw [List.getElem?_cons_succ] at hc
          rcases ih _ _ _ h k c hc hm with ⟨_, h0⟩ | ⟨h0, h2⟩
          · exact absurd rfl h0
          · right
            refine ⟨by omega, ?_⟩
            obtain ⟨j, rfl⟩ : ∃ j, k = j + 1 := ⟨k - 1, by omega⟩
            simpa using h2
      · cases h
theorem sig_behind {l : Bs} {ps : List Bs} (h : pieces l = some ps) {k : Nat} {c : UInt8} (hc : l[k]? = some c) (hm : isMk c = false) : bfMk l k = true := by
  unfold pieces at h
  split at h
  · next e => rw [e] at hc; simp at hc
  · rcases fin_behind l _ _ _ h k c hc hm with ⟨_, h2⟩ | ⟨h1, h2⟩
    · exact absurd rfl h2
    · simp only [bfMk, Bool.and_eq_true, decide_eq_true_eq]
      exact ⟨h1, h2⟩
theorem sg_of_mk {c : UInt8} (h : isMk c = true) : sg c = 1 ∨ sg c = 3 := by
  simp only [isMk, Bool.or_eq_true, beq_iff_eq] at h
  rcases h with rfl | rfl
  · exact .inl rfl
  · exact .inr rfl
theorem sg_of_gap {c : UInt8} (h : isMk c = false) : sg c = 3 ∨ sg c = 7 := by
  simp only [isMk, Bool.or_eq_false_iff, beq_eq_false_iff_ne] at h
  unfold sg
  rw [if_neg h.1, if_neg h.2]
  split
  · exact .inr rfl
  · exact .inl rfl
/-- On at even places, off at odd ones; how long. -/
def altAt (i : Nat) (p : Nat × Nat) : Prop := (i % 2 = 0 ∧ p.1 = 1 ∧ (p.2 = 1 ∨ p.2 = 3)) ∨ (i % 2 = 1 ∧ p.1 = 0 ∧ (p.2 = 1 ∨ p.2 = 3 ∨ p.2 = 7))
theorem sig_alt {l : Bs} {ps : List Bs} (h : pieces l = some ps) : ∀ k, k ≤ l.length → ((rsTo l k).length % 2 = if bfMk l k = true then 1 else 0) ∧ ∀ i p, (rsTo l k)[i]? = some p → altAt i p
  | 0, _ => ⟨by simp [rsTo, bfMk], fun i p hp => by simp [rsTo] at hp⟩
  | k + 1, hk => by
    obtain ⟨h1, h2⟩ := sig_alt h k (by omega)
    have hc : l[k]? = some l[k] := List.getElem?_eq_getElem (by omega)
    generalize l[k] = c at hc
    rw [rsTo_succ hc, bfMk_succ hc]
    cases hm : isMk c
    · have hb := sig_behind h hc hm
      rw [hb] at h1
      have h1' : (rsTo l k).length % 2 = 1 := by simpa using h1
      have hs := sg_of_gap hm
      simp only [Bool.and_false, Bool.false_eq_true, if_false, List.append_nil]
      refine ⟨by rw [List.length_append, List.length_singleton]; omega, fun i p hp => ?_⟩
      rcases Nat.lt_or_ge i (rsTo l k).length with hi | hi
      · rw [List.getElem?_append_left hi] at hp; exact h2 i p hp
      · rw [List.getElem?_append_right hi] at hp
        have hi2 : i - (rsTo l k).length = 0 := by
          have := (List.getElem?_eq_some_iff.1 hp).1
          simp at this; omega
        rw [hi2] at hp
        obtain rfl := Option.some.inj (show some (0, sg c) = some p from hp)
        exact .inr ⟨by omega, rfl, by simp only; omega⟩
    · have hs := sg_of_mk hm
      cases hb : bfMk l k
      · rw [hb] at h1
        have h1' : (rsTo l k).length % 2 = 0 := by simpa using h1
        simp only [Bool.false_and, Bool.false_eq_true, if_false, List.append_nil, if_true]
        refine ⟨by rw [List.length_append, List.length_singleton]; omega, fun i p hp => ?_⟩
        rcases Nat.lt_or_ge i (rsTo l k).length with hi | hi
        · rw [List.getElem?_append_left hi] at hp; exact h2 i p hp
        · rw [List.getElem?_append_right hi] at hp
          have hi2 : i - (rsTo l k).length = 0 := by
            have := (List.getElem?_eq_some_iff.1 hp).1
            simp at this; omega
          rw [hi2] at hp
          obtain rfl := Option.some.inj (show some (1, sg c) = some p from hp)
          exact .inl ⟨by omega, rfl, by simp only; omega⟩
      · rw [hb] at h1
        have h1' : (rsTo l k).length % 2 = 1 := by simpa using h1
        simp only [Bool.and_self, if_true, List.append_assoc, List.cons_append, List.nil_append]
        refine ⟨by rw [List.length_append, List.length_cons, List.length_singleton]; omega, fun i p hp => ?_⟩
        rcases Nat.lt_or_ge i (rsTo l k).length with hi | hi
        · rw [List.getElem?_append_left hi] at hp; exact h2 i p hp
        · rw [List.getElem?_append_right hi] at hp
          have hi2 := (List.getElem?_eq_some_iff.1 hp).1
          have hi3 : i - (rsTo l k).length = 0 ∨ i - (rsTo l k).length = 1 := by simp at hi2; omega
          rcases hi3 with hi3 | hi3
          · rw [hi3] at hp
            obtain rfl := Option.some.inj (show some (0, 1) = some p from hp)
            exact .inr ⟨by omega, rfl, by simp⟩
          · rw [hi3] at hp
            obtain rfl := Option.some.inj (show some (1, sg c) = some p from hp)
            exact .inl ⟨by omega, rfl, by simp only; omega⟩
def rsL (l : Bs) : List (Nat × Nat) := rsTo l l.length
/-- The least and the greatest length that is read as a run. -/
def bndOf (u : Nat) (p : Nat × Nat) : Nat × Nat := if p.2 = 1 then (1, 2 * u - 1) else if p.2 = 3 ∧ p.1 = 0 then (2 * u, 5 * u - 1) else if p.2 = 3 then (2 * u, 999) else (5 * u, 999)
end Go.Proofs.Ytgfmcpipbmnagaa
