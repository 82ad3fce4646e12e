/-
  Plain: the nodes of the Table with a rank. No program. Used by the claims on chapter 9.
-/
import Derived.Test.YtdphjnbelggcfaaRkL
namespace Go.Proofs.Ytdphjnbelggcfaa

theorem uptoN_nodup (k : Nat) : (uptoN k).Nodup := by
  have h : (List.range k).Pairwise (fun a b => a ≠ b) := List.nodup_range
  exact List.pairwise_map.2 (h.imp fun {a b} hne e => hne (by omega))
/-- What stands at a place among the nodes that are left. -/
theorem left_at {L p : Nat} {us : List Nat} (hp : p < (leftL L us).length) : ∃ v, (leftL L us)[p]? = some v ∧ 2 ≤ v ∧ v < L + 2 ∧ v ∉ us ∧ plc us v = p ∧ (leftL L us).eraseIdx p = leftL L (us ++ [v]) ∧ (leftL L (us ++ [v])).length + 1 = (leftL L us).length := by
  have hx := List.getElem?_eq_getElem hp
  have hm := List.getElem_mem hp
  obtain ⟨h1, h2⟩ := List.mem_filter.1 hm
  have hv := uptoN_mem.1 h1
  have hu := freeB_iff.1 h2
  obtain ⟨q1, q2, q3, q4, q5⟩ := left_place hv.1 hv.2 hu
  have hpp : plc us (leftL L us)[p] = p := by
    have hn : (leftL L us).Nodup := (uptoN_nodup L).sublist (List.filter_sublist ..)
    rcases Nat.lt_trichotomy (plc us (leftL L us)[p]) p with h | h | h
    · exfalso
      have e := (List.getElem?_eq_some_iff.1 q1)
      obtain ⟨hl, he⟩ := e
      exact (List.pairwise_iff_getElem.1 (show (leftL L us).Pairwise (fun a b => a ≠ b) from hn)) _ _ hl hp h he
    · exact h
    · exact absurd hx (q2 p h)
  rw [hpp] at q3
  exact ⟨_, hx, hv.1, hv.2, hu, hpp, q3, q5⟩
/-- One letter more: what is left of the rank, the nodes. -/
def tatS (L n : Nat) (s : Nat × List Nat) : Nat × List Nat :=
  (s.1 % manyN (n - 1 - s.2.length) (L - 1 - s.2.length), s.2 ++ [(leftL L s.2).getD (s.1 / manyN (n - 1 - s.2.length) (L - 1 - s.2.length)) 0])
def tatN (L n r : Nat) : Nat → Nat × List Nat
  | 0 => (r, [])
  | k + 1 => tatS L n (tatN L n r k)
/-- What is kept after k letters. -/
structure TatK (L n k : Nat) (s : Nat × List Nat) : Prop where
  len : s.2.length = k
  lt : s.1 < manyN (n - k) (L - k)
  left : (leftL L s.2).length = L - k
  mem : ∀ v ∈ s.2, 2 ≤ v ∧ v ≤ 63
theorem tat_zero {L n r : Nat} (h : r < manyN n L) : TatK L n 0 (tatN L n r 0) := ⟨rfl, h, by show (leftL L []).length = _; rw [left_nil, uptoN_len]; rfl, by simp [tatN]⟩
/-- The factors: a letter's own, and those of the letters to come. -/
theorem tat_each {L n k : Nat} (hk : k < n) (h : 1 ≤ manyN (n - k) (L - k)) : manyN (n - k) (L - k) = (L - k) * manyN (n - 1 - k) (L - 1 - k) ∧ 1 ≤ manyN (n - 1 - k) (L - 1 - k) ∧ k < L := by
  have e : manyN (n - k) (L - k) = (L - k) * manyN (n - 1 - k) (L - 1 - k) := by
    rw [show n - k = (n - 1 - k) + 1 by omega, manyN, show L - k - 1 = L - 1 - k by omega]
  rw [e] at h
  have h1 : 0 < L - k := Nat.pos_of_mul_pos_right h
  have h2 : 0 < manyN (n - 1 - k) (L - 1 - k) := Nat.pos_of_mul_pos_left h
  exact ⟨e, h2, by omega⟩
theorem tat_step {L n k : Nat} (hk : k < n) (hL : L ≤ 62) {s : Nat × List Nat} (h : TatK L n k s) :
    ∃ v, v = (leftL L s.2).getD (s.1 / manyN (n - 1 - k) (L - 1 - k)) 0 ∧ (leftL L s.2)[s.1 / manyN (n - 1 - k) (L - 1 - k)]? = some v ∧ 2 ≤ v ∧ v ≤ 63 ∧ v ∉ s.2 ∧ plc s.2 v = s.1 / manyN (n - 1 - k) (L - 1 - k) ∧ s.1 / manyN (n - 1 - k) (L - 1 - k) < L - k ∧ (leftL L s.2).eraseIdx (s.1 / manyN (n - 1 - k) (L - 1 - k)) = leftL L (s.2 ++ [v]) ∧ tatS L n s = (s.1 % manyN (n - 1 - k) (L - 1 - k), s.2 ++ [v]) ∧ TatK L n (k + 1) (tatS L n s) := by
  obtain ⟨e1, e2, e3⟩ := tat_each hk (Nat.lt_of_le_of_lt (Nat.zero_le _) h.lt)
  have hp : s.1 / manyN (n - 1 - k) (L - 1 - k) < L - k := by
    rw [Nat.div_lt_iff_lt_mul (by omega)]
    have := h.lt
    rw [e1] at this; exact this
  obtain ⟨v, q1, q2, q3, q4, q5, q6, q7⟩ := left_at (L := L) (us := s.2) (p := s.1 / manyN (n - 1 - k) (L - 1 - k)) (by rw [h.left]; exact hp)
  have hg : (leftL L s.2).getD (s.1 / manyN (n - 1 - k) (L - 1 - k)) 0 = v := by rw [List.getD_eq_getElem?_getD, q1]; rfl
  have hs : tatS L n s = (s.1 % manyN (n - 1 - k) (L - 1 - k), s.2 ++ [v]) := by unfold tatS; rw [h.len, hg]
  refine ⟨v, hg.symm, q1, q2, by omega, q4, q5, hp, q6, hs, ?_⟩
  rw [hs]
  refine ⟨by simp [h.len], ?_, ?_, fun u hu => ?_⟩
  · rw [show n - (k + 1) = n - 1 - k by omega, show L - (k + 1) = L - 1 - k by omega]
    exact Nat.mod_lt _ (by omega)
  · have := h.left; simp only; omega
  · rcases List.mem_append.1 hu with hu | hu
    · exact h.mem u hu
    · rw [List.mem_singleton] at hu; subst hu; omega
theorem tat_keep {L n r : Nat} (hL : L ≤ 62) (h : r < manyN n L) : ∀ k, k ≤ n → TatK L n k (tatN L n r k)
  | 0, _ => tat_zero h
  | k + 1, hk => (tat_step (by omega) hL (tat_keep hL h k (by omega))).choose_spec.2.2.2.2.2.2.2.2.2
end Go.Proofs.Ytdphjnbelggcfaa
