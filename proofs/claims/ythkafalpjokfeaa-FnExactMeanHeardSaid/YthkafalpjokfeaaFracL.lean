/-
  Plain facts on fractions without a common divisor, and on the chance that marks come of others. No program. Used by the claims on chapter 7.
-/
namespace Go.Proofs.Ythkafalpjokfeaa
set_option linter.unusedVariables false

/-- A fraction without a common divisor. -/
def cutN (a b : Nat) : Nat × Nat := (a / Nat.gcd a b, b / Nat.gcd a b)

theorem cut_scale {k : Nat} (hk : 0 < k) (a b : Nat) : cutN (k * a) (k * b) = cutN a b := by
  unfold cutN
  rw [Nat.gcd_mul_left, Nat.mul_div_mul_left _ _ hk, Nat.mul_div_mul_left _ _ hk]
theorem cut_eq {a b c d : Nat} (hb : 0 < b) (hd : 0 < d) (h : a * d = c * b) : cutN a b = cutN c d := by
  rw [← cut_scale hd a b, ← cut_scale hb c d, Nat.mul_comm d a, h, Nat.mul_comm c b, Nat.mul_comm d b]
theorem cut_fst (a b : Nat) : (cutN a b).1 * Nat.gcd a b = a := Nat.div_mul_cancel (Nat.gcd_dvd_left a b)
theorem cut_snd (a b : Nat) : (cutN a b).2 * Nat.gcd a b = b := Nat.div_mul_cancel (Nat.gcd_dvd_right a b)
theorem cut_pos {a b : Nat} (hb : 0 < b) : 0 < (cutN a b).2 := by
  have := cut_snd a b
  rcases Nat.eq_zero_or_pos (cutN a b).2 with h | h
  · rw [h] at this; omega
  · exact h
theorem gcd_pos {a b : Nat} (hb : 0 < b) : 0 < Nat.gcd a b := Nat.gcd_pos_of_pos_right a hb
theorem cut_le1 (a b : Nat) : (cutN a b).1 ≤ a := Nat.div_le_self _ _
theorem cut_le2 (a b : Nat) : (cutN a b).2 ≤ b := Nat.div_le_self _ _
theorem cut_cross {a b : Nat} (hb : 0 < b) : (cutN a b).1 * b = a * (cutN a b).2 := by
  have h1 := cut_fst a b
  have h2 := cut_snd a b
  have hg := gcd_pos (a := a) hb
  generalize (cutN a b).1 = x at *
  generalize (cutN a b).2 = y at *
  generalize Nat.gcd a b = g at *
  subst h1
  subst h2
  rw [Nat.mul_assoc, Nat.mul_comm g y]
/-- A fraction that is one already. -/
theorem cut_again {a b : Nat} (hb : 0 < b) : cutN (cutN a b).1 (cutN a b).2 = cutN a b := cut_eq (cut_pos hb) hb (cut_cross hb)
theorem cut_le {a b : Nat} (h : a ≤ b) : (cutN a b).1 ≤ (cutN a b).2 := Nat.div_le_div_right h
theorem cut_mul {a b c d : Nat} (hb : 0 < b) (hd : 0 < d) : cutN ((cutN a b).1 * (cutN c d).1) ((cutN a b).2 * (cutN c d).2) = cutN (a * c) (b * d) := by
  apply cut_eq (Nat.mul_pos (cut_pos hb) (cut_pos hd)) (Nat.mul_pos hb hd)
  have h1 := cut_cross (a := a) hb
  have h2 := cut_cross (a := c) hd
  generalize (cutN a b).1 = x1 at *
  generalize (cutN a b).2 = x2 at *
  generalize (cutN c d).1 = y1 at *
  generalize (cutN c d).2 = y2 at *
  rw [Nat.mul_mul_mul_comm x1 y1 b d, h1, h2, Nat.mul_mul_mul_comm a x2 c y2]
/-- What there is of 1 beside it. -/
theorem cut_rest {a b : Nat} (hb : 0 < b) (h : a ≤ b) : ((cutN a b).2 - (cutN a b).1, (cutN a b).2) = cutN (b - a) b := by
  have hg := gcd_pos (a := a) hb
  unfold cutN
  have e : Nat.gcd (b - a) b = Nat.gcd a b := by
    have h1 : Nat.gcd (b - a) b = Nat.gcd (b - a) (b - (b - a)) := by
      rw [Nat.gcd_comm]
      conv => lhs; rw [show b = (b - (b - a)) + (b - a) by omega]
      rw [show (b - (b - a) + (b - a) - a) = b - a by omega]
      rw [Nat.gcd_comm]
      exact Nat.gcd_add_self_right _ _
    rw [h1, show b - (b - a) = a by omega]
    conv => rhs; rw [show b = (b - a) + a by omega]
    rw [Nat.gcd_comm a]
    exact (Nat.gcd_add_self_left _ _).symm
  rw [e]
  obtain ⟨x, hx⟩ := Nat.gcd_dvd_left a b
  obtain ⟨y, hy⟩ := Nat.gcd_dvd_right a b
  generalize Nat.gcd a b = g at *
  subst hx
  subst hy
  rw [← Nat.mul_sub, Nat.mul_div_cancel_left _ hg, Nat.mul_div_cancel_left _ hg, Nat.mul_div_cancel_left _ hg]
theorem cut_zero {b : Nat} (hb : 0 < b) : cutN 0 b = (0, 1) := by
  unfold cutN
  rw [Nat.gcd_zero_left, Nat.zero_div, Nat.div_self hb]
theorem cut_one {b : Nat} (hb : 0 < b) : cutN b b = (1, 1) := by
  unfold cutN
  rw [Nat.gcd_self, Nat.div_self hb]

/-- Two fractions of parts of D, on their least denominator: it divides D, as the numerators do the parts. -/
theorem one_den {a c D : Nat} (hD : 0 < D) : ∃ k, 0 < k ∧
    a = k * ((cutN a D).1 * ((cutN c D).2 / Nat.gcd (cutN a D).2 (cutN c D).2)) ∧
    c = k * ((cutN c D).1 * ((cutN a D).2 / Nat.gcd (cutN a D).2 (cutN c D).2)) ∧
    D = k * ((cutN a D).2 / Nat.gcd (cutN a D).2 (cutN c D).2 * (cutN c D).2) := by
  have ha := cut_cross (a := a) hD
  have hc := cut_cross (a := c) hD
  have pa := cut_pos (a := a) hD
  have pc := cut_pos (a := c) hD
  have da : (cutN a D).2 ∣ D := ⟨Nat.gcd a D, (cut_snd a D).symm⟩
  have dc : (cutN c D).2 ∣ D := ⟨Nat.gcd c D, (cut_snd c D).symm⟩
  generalize (cutN a D).1 = x1 at *
  generalize (cutN a D).2 = x2 at *
  generalize (cutN c D).1 = y1 at *
  generalize (cutN c D).2 = y2 at *
  have hl : Nat.lcm x2 y2 ∣ D := Nat.lcm_dvd da dc
  obtain ⟨k, hk⟩ := hl
  have hg := gcd_pos (a := x2) pc
  obtain ⟨u, hu⟩ := Nat.gcd_dvd_left x2 y2
  obtain ⟨v, hv⟩ := Nat.gcd_dvd_right x2 y2
  have hlc : Nat.lcm x2 y2 = u * y2 := by
    unfold Nat.lcm
    generalize Nat.gcd x2 y2 = g at *
    subst hu
    rw [Nat.mul_assoc, Nat.mul_div_cancel_left _ hg]
  rw [hlc] at hk
  generalize Nat.gcd x2 y2 = g at *
  have e1 : x2 / g = u := by rw [hu, Nat.mul_div_cancel_left _ hg]
  have e2 : y2 / g = v := by rw [hv, Nat.mul_div_cancel_left _ hg]
  rw [e1, e2]
  have hk0 : 0 < k := by
    rcases Nat.eq_zero_or_pos k with h | h
    · subst h; omega
    · exact h
  have hu0 : 0 < u := by
    rcases Nat.eq_zero_or_pos u with h | h
    · subst h; omega
    · exact h
  have hv0 : 0 < v := by
    rcases Nat.eq_zero_or_pos v with h | h
    · subst h; omega
    · exact h
  refine ⟨k, hk0, ?_, ?_, by rw [hk, Nat.mul_comm]⟩
  · -- x1 * D = a * x2, D = u*y2*k = u*(g*v)*k, x2 = g*u
    apply Nat.eq_of_mul_eq_mul_right (Nat.mul_pos hg hu0)
    rw [← hu, ← ha, hk]
    rw [hv, hu]
    simp only [Nat.mul_comm, Nat.mul_left_comm]
  · apply Nat.eq_of_mul_eq_mul_right (Nat.mul_pos hg hv0)
    rw [← hv, ← hc, hk]
    rw [hv]
    simp only [Nat.mul_comm, Nat.mul_left_comm]

/-- The sum of two fractions of parts of D. -/
theorem cut_add {a c D : Nat} (hD : 0 < D) {n1 n2 d : Nat}
    (h1 : n1 = (cutN a D).1 * ((cutN c D).2 / Nat.gcd (cutN a D).2 (cutN c D).2)) (h2 : n2 = (cutN c D).1 * ((cutN a D).2 / Nat.gcd (cutN a D).2 (cutN c D).2))
    (h3 : d = (cutN a D).2 / Nat.gcd (cutN a D).2 (cutN c D).2 * (cutN c D).2) : cutN (n1 + n2) d = cutN (a + c) D ∧ cutN n1 n2 = cutN a c ∧ n1 ≤ a ∧ n2 ≤ c ∧ d ≤ D ∧ 0 < d ∧ (n1 < n2 ↔ a < c) ∧ (n2 < n1 ↔ c < a) := by
  obtain ⟨k, hk, e1, e2, e3⟩ := one_den (a := a) (c := c) hD
  rw [← h1] at e1
  rw [← h2] at e2
  rw [← h3] at e3
  clear h1 h2 h3
  subst e1
  subst e2
  subst e3
  refine ⟨by rw [← Nat.mul_add, cut_scale hk], by rw [cut_scale hk], Nat.le_mul_of_pos_left _ hk, Nat.le_mul_of_pos_left _ hk, Nat.le_mul_of_pos_left _ hk, ?_, (Nat.mul_lt_mul_left hk).symm, (Nat.mul_lt_mul_left hk).symm⟩
  rcases Nat.eq_zero_or_pos d with h | h
  · subst h; simp at hD
  · exact h
end Go.Proofs.Ythkafalpjokfeaa
