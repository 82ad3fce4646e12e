/-
  Plain facts on the checksum: one byte changed in a sealed text is never sealed again. No program. Used by the claim on FnStrings.
-/
import Derived.Test.YtppiocjmhlgjoaaDoorVerW
namespace Go.Proofs.YtppiocjmhlgjoaaDoor
open Go.RowKit

theorem step_inj (h a c : Int) (h0 : 0 ≤ a) (h1 : a < 256) (h2 : 0 ≤ c) (h3 : c < 256) (e : (41 * h + a + 1) % 999979 = (41 * h + c + 1) % 999979) : a = c := by omega
theorem step_from (h k c : Int) (h0 : 0 ≤ h) (h1 : h < 999979) (k0 : 0 ≤ k) (k1 : k < 999979) (e : (41 * h + c + 1) % 999979 = (41 * k + c + 1) % 999979) : h = k := by omega
theorem sumFrom_inj : ∀ (l : List UInt8) (h k : Int), 0 ≤ h → h < 999979 → 0 ≤ k → k < 999979 → sumFrom h l = sumFrom k l → h = k
  | [], h, k, _, _, _, _, e => e
  | c :: l, h, k, h0, h1, k0, k1, e => by
    have := sumFrom_inj l ((41 * h + (c.toNat : Int) + 1) % 999979) ((41 * k + (c.toNat : Int) + 1) % 999979) (by omega) (by omega) (by omega) (by omega) e
    exact step_from h k c.toNat h0 h1 k0 k1 this
theorem sum_change (p r : List UInt8) (a c : UInt8) (e : sumL (p ++ a :: r) = sumL (p ++ c :: r)) : a = c := by
  unfold sumL at e
  rw [sumFrom_append, sumFrom_append] at e
  have hp := sumFrom_bd 7 p (by omega) (by omega)
  have := sumFrom_inj r _ _ (by omega) (by omega) (by omega) (by omega) e
  have ha := a.toNat_lt
  have hc := c.toNat_lt
  have := step_inj _ _ _ (by omega) (by omega) (by omega) (by omega) this
  exact UInt8.toNat_inj.1 (by omega)
theorem sumL_dec (l : List UInt8) : InDec (sumL l) := by have := sumL_bd l; unfold InDec; omega
theorem itoa35 (l : List UInt8) : (35 : UInt8) ∉ Lib.itoa (sumL l) := by
  have := itoa_sum_35 l
  simpa using this
theorem cut2 {x y R Q : List UInt8} (hx : (35 : UInt8) ∉ x) (hy : (35 : UInt8) ∉ y) (h : x ++ 35 :: R = y ++ 35 :: Q) : x = y ∧ R = Q := by
  have := cut_unique 35 x y (35 :: R) (35 :: Q) hx hy (.inr ⟨R, rfl⟩) (.inr ⟨Q, rfl⟩) h
  exact ⟨this.1, by simpa using this.2⟩

/-- A sealed text with one byte changed is no sealed text. -/
theorem changed (x t p q : List UInt8) (a c : UInt8) (hx : (35 : UInt8) ∉ x) (ht : (35 : UInt8) ∉ t) (hne : a ≠ c) (h1 : sealed x = p ++ a :: q) (h2 : sealed t = p ++ c :: q) : False := by
  have mid : p = x → a = 35 → q = Lib.itoa (sumL x) → False := by
    intro hp ha hq
    have hm : (35 : UInt8) ∈ sealed t := by unfold sealed; simp
    rw [h2, hp, hq] at hm
    simp only [List.mem_append, List.mem_cons] at hm
    rcases hm with hm | hm | hm
    · exact hx hm
    · exact hne (by rw [ha, ← hm])
    · exact itoa35 x hm
  unfold sealed at h1 h2
  rcases List.append_eq_append_iff.1 h1 with ⟨r, hp, hr⟩ | ⟨r, hp, hr⟩
  · cases r with
    | nil => 
      simp at hr
      exact mid (by simpa using hp) hr.1.symm hr.2.symm
    | cons b r =>
      simp at hr
      obtain ⟨rfl, hr⟩ := hr
      rw [hp, List.append_assoc, List.cons_append] at h2
      obtain ⟨e1, e2⟩ := cut2 ht hx h2
      subst e1
      rw [e2] at hr
      have := List.append_cancel_left hr
      exact hne (by injection this with e _; exact e.symm)
  · cases r with
    | nil =>
      simp at hr
      exact mid (by simpa using hp.symm) hr.1 hr.2
    | cons b r =>
      simp at hr
      obtain ⟨rfl, rfl⟩ := hr
      by_cases hc : c = 35
      · subst hc
        obtain ⟨e1, e2⟩ := cut2 ht (fun h => hx (by rw [hp]; simp [h])) h2
        exact itoa35 t (by rw [e2]; simp)
      · have h3 : t ++ 35 :: Lib.itoa (sumL t) = (p ++ c :: r) ++ 35 :: Lib.itoa (sumL x) := by rw [h2]; simp
        have hnot : (35 : UInt8) ∉ p ++ c :: r := by
          intro h
          rcases List.mem_append.1 h with h | h
          · exact hx (by rw [hp]; simp [h])
          · rcases List.mem_cons.1 h with h | h
            · exact hc h.symm
            · exact hx (by rw [hp]; simp [h])
        obtain ⟨e1, e2⟩ := cut2 ht hnot h3
        have := itoa_inj (sumL_dec t) (sumL_dec x) e2
        rw [e1, hp] at this
        exact hne (sum_change p r a c this.symm)
end Go.Proofs.YtppiocjmhlgjoaaDoor
