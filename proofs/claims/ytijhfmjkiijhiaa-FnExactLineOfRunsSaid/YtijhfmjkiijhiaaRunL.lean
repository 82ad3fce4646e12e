/-
  Plain facts on the runs of a line: how they are built sign by sign, that they are told by what they spell, lines of runs, units, plain lines. No program. Used by the claims on chapter 4.
-/
import Derived.Test.YtijhfmjkiijhiaaLineL
namespace Go.Proofs.Ytijhfmjkiijhiaa

set_option linter.unusedVariables false
abbrev Rs := List (Nat × Nat)
def bump (rs : Rs) : Rs := rs.modify (rs.length - 1) fun p => (p.1, p.2 + 1)
def signOf (c : UInt8) : Nat := c.toNat - 48
def runsTo (l : Bs) : Nat → Rs
  | 0 => []
  | k + 1 => if k = 0 ∨ l.getD k 0 ≠ l.getD (k - 1) 0 then runsTo l k ++ [(signOf (l.getD k 0), 1)] else bump (runsTo l k)
def runsL (l : Bs) : Rs := runsTo l l.length
theorem bump_len (rs : Rs) : (bump rs).length = rs.length := by simp [bump]
theorem bump_snoc (rs : Rs) (p : Nat × Nat) : bump (rs ++ [p]) = rs ++ [(p.1, p.2 + 1)] := by
  unfold bump
  rw [List.length_append, List.length_singleton, Nat.add_sub_cancel]
  induction rs with
  | nil => rfl
  | cons q rs ih => simpa using ih
theorem runsTo_le (l : Bs) : ∀ k, (runsTo l k).length ≤ k
  | 0 => Nat.le_refl _
  | k + 1 => by
    have := runsTo_le l k
    unfold runsTo
    split
    · simp; omega
    · rw [bump_len]; omega

/-- A line spelt by runs. -/
def byteOf (n : Nat) : UInt8 := UInt8.ofNat (48 + n)
def spell (rs : Rs) : Bs := rs.flatMap fun p => List.replicate p.2 (byteOf p.1)
theorem spell_snoc (rs : Rs) (p : Nat × Nat) : spell (rs ++ [p]) = spell rs ++ List.replicate p.2 (byteOf p.1) := by simp [spell]
theorem spell_cons (p : Nat × Nat) (rs : Rs) : spell (p :: rs) = List.replicate p.2 (byteOf p.1) ++ spell rs := by simp [spell]

/-- Runs as they are: each of a length, no two alike side by side, signs 0 and 1. -/
def Good : Rs → Prop
  | [] => True
  | [p] => p.1 ≤ 1 ∧ 1 ≤ p.2
  | p :: q :: r => p.1 ≤ 1 ∧ 1 ≤ p.2 ∧ p.1 ≠ q.1 ∧ Good (q :: r)
theorem Good.tail {p : Nat × Nat} {r : Rs} (h : Good (p :: r)) : Good r := by
  cases r with
  | nil => trivial
  | cons q r => exact h.2.2.2
theorem Good.head {p : Nat × Nat} {r : Rs} (h : Good (p :: r)) : p.1 ≤ 1 ∧ 1 ≤ p.2 := by
  cases r with
  | nil => exact h
  | cons q r => exact ⟨h.1, h.2.1⟩
theorem Good.mem {rs : Rs} (h : Good rs) : ∀ p ∈ rs, p.1 ≤ 1 ∧ 1 ≤ p.2 := by
  induction rs with
  | nil => intro p hp; simp at hp
  | cons q r ih =>
    intro p hp
    rcases List.mem_cons.1 hp with rfl | hp
    · exact h.head
    · exact ih h.tail p hp
theorem good_snoc : ∀ {rs : Rs} {p : Nat × Nat}, Good rs → p.1 ≤ 1 → 1 ≤ p.2 → (∀ q, rs.getLast? = some q → q.1 ≠ p.1) → Good (rs ++ [p])
  | [], p, _, h1, h2, _ => ⟨h1, h2⟩
  | [q], p, h, h1, h2, h3 => ⟨h.1, h.2, h3 q rfl, h1, h2⟩
  | q :: q2 :: r, p, h, h1, h2, h3 => by
    have := good_snoc (rs := q2 :: r) (p := p) h.tail h1 h2 (fun x hx => h3 x (by rw [List.getLast?_cons_cons]; exact hx))
    exact ⟨h.1, h.2.1, h.2.2.1, this⟩
theorem good_last : ∀ {rs : Rs} {p : Nat × Nat} {n : Nat}, Good (rs ++ [p]) → 1 ≤ n → Good (rs ++ [(p.1, n)])
  | [], p, n, h, hn => ⟨h.1, hn⟩
  | [q], p, n, h, hn => ⟨h.1, h.2.1, h.2.2.1, h.2.2.2.1, hn⟩
  | q :: q2 :: r, p, n, h, hn => ⟨h.1, h.2.1, h.2.2.1, good_last (rs := q2 :: r) h.2.2.2 hn⟩
theorem byteOf_inj {a b : Nat} (ha : a ≤ 1) (hb : b ≤ 1) (h : byteOf a = byteOf b) : a = b := by
  have e : ∀ n, n ≤ 1 → (byteOf n).toNat = 48 + n := fun n hn => by unfold byteOf; rw [UInt8.toNat_ofNat']; omega
  have := congrArg UInt8.toNat h
  rw [e a ha, e b hb] at this
  omega
theorem byte_sign {c : UInt8} (h : c = 48 ∨ c = 49) : byteOf (signOf c) = c ∧ signOf c ≤ 1 := by
  rcases h with rfl | rfl <;> decide
theorem rep_split {c : UInt8} : ∀ {n m : Nat} {x y : Bs}, List.replicate n c ++ x = List.replicate m c ++ y → (∀ d, x.head? = some d → d ≠ c) → (∀ d, y.head? = some d → d ≠ c) → n = m ∧ x = y
  | 0, 0, x, y, h, _, _ => ⟨rfl, by simpa using h⟩
  | 0, m + 1, x, y, h, hx, _ => by
    have e : x = c :: (List.replicate m c ++ y) := by simpa [List.replicate_succ] using h
    exact absurd rfl (hx c (by rw [e]; rfl))
  | n + 1, 0, x, y, h, _, hy => by
    have e : c :: (List.replicate n c ++ x) = y := by simpa [List.replicate_succ] using h
    exact absurd rfl (hy c (by rw [← e]; rfl))
  | n + 1, m + 1, x, y, h, hx, hy => by
    have e : List.replicate n c ++ x = List.replicate m c ++ y := by simpa [List.replicate_succ] using h
    obtain ⟨h1, h2⟩ := rep_split e hx hy
    exact ⟨by omega, h2⟩
theorem spell_head {p : Nat × Nat} {r : Rs} (h : 1 ≤ p.2) : (spell (p :: r)).head? = some (byteOf p.1) := by
  rw [spell_cons]
  obtain ⟨n, hn⟩ : ∃ n, p.2 = n + 1 := ⟨p.2 - 1, by omega⟩
  rw [hn, List.replicate_succ]; rfl
theorem Good.next {p : Nat × Nat} {r : Rs} (h : Good (p :: r)) : ∀ d, (spell r).head? = some d → d ≠ byteOf p.1 := by
  intro d hd
  cases r with
  | nil => simp [spell] at hd
  | cons q r =>
    rw [spell_head h.2.2.2.head.2] at hd
    obtain rfl : byteOf q.1 = d := by simpa using hd
    intro e
    exact h.2.2.1 (byteOf_inj h.1 h.2.2.2.head.1 e.symm)
theorem spell_inj : ∀ {a b : Rs}, Good a → Good b → spell a = spell b → a = b
  | [], [], _, _, _ => rfl
  | [], q :: r, _, hb, h => by
    have := spell_head (p := q) (r := r) hb.head.2
    rw [← h] at this; simp [spell] at this
  | p :: s, [], ha, _, h => by
    have := spell_head (p := p) (r := s) ha.head.2
    rw [h] at this; simp [spell] at this
  | p :: s, q :: r, ha, hb, h => by
    have e1 := spell_head (p := p) (r := s) ha.head.2
    rw [h, spell_head hb.head.2] at e1
    have e2 : q.1 = p.1 := byteOf_inj hb.head.1 ha.head.1 (by simpa using e1)
    rw [spell_cons, spell_cons, e2] at h
    obtain ⟨h1, h2⟩ := rep_split h ha.next (by rw [← e2]; exact hb.next)
    have h3 := spell_inj ha.tail hb.tail h2
    rw [h3]
    congr 1
    exact Prod.ext e2.symm h1
/-- What the runs of a line's beginning spell. -/
theorem runsTo_good {l : Bs} (h : ∀ c ∈ l, c = 48 ∨ c = 49) : ∀ k, k ≤ l.length → Good (runsTo l k) ∧ spell (runsTo l k) = l.take k ∧ (0 < k → ∃ rs n, runsTo l k = rs ++ [(signOf (l.getD (k - 1) 0), n)])
  | 0, _ => ⟨trivial, by simp [runsTo, spell], fun h => absurd h (by omega)⟩
  | k + 1, hk => by
    obtain ⟨h1, h2, h3⟩ := runsTo_good h k (by omega)
    have hc : l.getD k 0 = 48 ∨ l.getD k 0 = 49 := by
      rw [List.getD_eq_getElem?_getD, List.getElem?_eq_getElem (by omega)]
      exact h _ (List.getElem_mem _)
    have ht : l.take (k + 1) = l.take k ++ [l.getD k 0] := by
      rw [List.take_add_one, List.getD_eq_getElem?_getD, List.getElem?_eq_getElem (by omega)]; rfl
    unfold runsTo
    by_cases hn : k = 0 ∨ l.getD k 0 ≠ l.getD (k - 1) 0
    · rw [if_pos hn]
      refine ⟨good_snoc h1 (byte_sign hc).2 (Nat.le_refl _) ?_, ?_, fun _ => ⟨_, 1, rfl⟩⟩
      · intro q hq
        rcases hn with rfl | hn
        · simp [runsTo] at hq
        · by_cases h0 : 0 < k
          · obtain ⟨rs, n, e⟩ := h3 h0
            rw [e] at hq
            obtain rfl : (signOf (l.getD (k - 1) 0), n) = q := by simpa using hq
            intro e2
            apply hn
            have hp : l.getD (k - 1) 0 = 48 ∨ l.getD (k - 1) 0 = 49 := by
              rw [List.getD_eq_getElem?_getD, List.getElem?_eq_getElem (by omega)]
              exact h _ (List.getElem_mem _)
            rw [← (byte_sign hc).1, ← (byte_sign hp).1]
            exact congrArg byteOf e2.symm
          · obtain rfl : k = 0 := by omega
            simp [runsTo] at hq
      · rw [spell_snoc, h2, ht, (byte_sign hc).1]; rfl
    · rw [if_neg hn]
      have hn0 : ¬ k = 0 := fun e => hn (.inl e)
      have hne : l.getD k 0 = l.getD (k - 1) 0 := Classical.byContradiction fun e => hn (.inr e)
      obtain ⟨rs, n, e⟩ := h3 (by omega)
      rw [e, bump_snoc]
      rw [e] at h1 h2
      refine ⟨good_last h1 (by omega), ?_, fun _ => ⟨rs, n + 1, by rw [Nat.add_sub_cancel, hne]⟩⟩
      rw [spell_snoc] at h2 ⊢
      simp only at h2 ⊢
      rw [List.replicate_succ', ← List.append_assoc, h2, ht, hne]
      have hp : l.getD (k - 1) 0 = 48 ∨ l.getD (k - 1) 0 = 49 := by rw [← hne]; exact hc
      rw [(byte_sign hp).1]
theorem runsL_good {l : Bs} (h : ∀ c ∈ l, c = 48 ∨ c = 49) : Good (runsL l) ∧ spell (runsL l) = l := by
  obtain ⟨h1, h2, _⟩ := runsTo_good h l.length (Nat.le_refl _)
  exact ⟨h1, by rw [runsL, h2, List.take_length]⟩
theorem runsL_of {rs : Rs} (h : Good rs) : runsL (spell rs) = rs := by
  have hb : ∀ c ∈ spell rs, c = 48 ∨ c = 49 := by
    intro c hc
    simp only [spell, List.mem_flatMap] at hc
    obtain ⟨p, hp, hc⟩ := hc
    have h1 := (h.mem p hp).1
    have := (List.mem_replicate.1 hc).2
    rw [this]
    have : p.1 = 0 ∨ p.1 = 1 := by omega
    rcases this with e | e <;> rw [e] <;> decide
  obtain ⟨h1, h2⟩ := runsL_good hb
  exact spell_inj h1 h h2
end Go.Proofs.Ytijhfmjkiijhiaa
