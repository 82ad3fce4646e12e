/-
  Plain lists: readings counted from the end are as many as from the beginning; those with a border at a place. Used by the claims on chapter 3.
-/
import Derived.Test.YtekgmdigchobbaaWayL
namespace Go.Proofs.Ytekgmdigchobbaa
set_option linter.unusedVariables false

/-! ### From the end -/
def ssum (T : List Bs) (s : Bs) (g : Nat → Nat) : Nat := (T.map fun m => if m.isSuffixOf s = true then g m.length else 0).sum
def wayE (T : List Bs) (s : Bs) : Nat := ways (T.map List.reverse) s.reverse
theorem sum_zero {α : Type} : ∀ l : List α, (l.map fun _ => 0).sum = 0
  | [] => rfl
  | _ :: l => by rw [List.map_cons, List.sum_cons, sum_zero l]
theorem sum_exch {α β : Type} (f : α → β → Nat) : ∀ (A : List α) (B : List β), (A.map fun a => (B.map fun b => f a b).sum).sum = (B.map fun b => (A.map fun a => f a b).sum).sum
  | [], B => (sum_zero B).symm
  | a :: A, B => by
    have ih := sum_exch f A B
    have h : ∀ l : List β, (l.map fun b => ((a :: A).map fun a => f a b).sum).sum = (l.map fun b => f a b).sum + (l.map fun b => (A.map fun a => f a b).sum).sum := fun l => by
      induction l with
      | nil => rfl
      | cons x r ih => simp only [List.map_cons, List.sum_cons] at ih ⊢; omega
    rw [h B, List.map_cons, List.sum_cons, ih]
theorem sum_map_congr {α : Type} {f g : α → Nat} {l : List α} (h : ∀ a ∈ l, f a = g a) : (l.map f).sum = (l.map g).sum := by rw [List.map_congr_left h]
theorem sum_map_le {α : Type} {f g : α → Nat} : ∀ {l : List α}, (∀ a ∈ l, f a ≤ g a) → (l.map f).sum ≤ (l.map g).sum
  | [], _ => by simp
  | a :: l, h => by
    have h1 := sum_map_le (l := l) (fun x hx => h x (by simp [hx]))
    have h2 := h a (by simp)
    simp only [List.map_cons, List.sum_cons]; omega
theorem sum_map_add {α : Type} (f g : α → Nat) : ∀ l : List α, (l.map fun a => f a + g a).sum = (l.map f).sum + (l.map g).sum
  | [] => rfl
  | a :: l => by have := sum_map_add f g l; simp only [List.map_cons, List.sum_cons]; omega
theorem sum_map_mul {α : Type} (f : α → Nat) (k : Nat) : ∀ l : List α, (l.map fun a => f a * k).sum = (l.map f).sum * k
  | [] => by simp
  | a :: l => by have := sum_map_mul f k l; simp only [List.map_cons, List.sum_cons, Nat.add_mul]; omega
theorem suf_le {m s : Bs} (h : m.isSuffixOf s = true) : m.length ≤ s.length := (List.isSuffixOf_iff_suffix.1 h).length_le
theorem suf_drop {m s : Bs} (h : m.isSuffixOf s = true) : m = s.drop (s.length - m.length) := List.suffix_iff_eq_drop.1 (List.isSuffixOf_iff_suffix.1 h)
theorem rev_ne {T : List Bs} (hT : ∀ m ∈ T, m ≠ []) : ∀ m ∈ T.map List.reverse, m ≠ [] := fun m hm e => by
  obtain ⟨x, hx, rfl⟩ := List.mem_map.1 hm
  exact hT x hx (List.reverse_eq_nil_iff.1 e)
theorem wayE_nil (T : List Bs) : wayE T [] = 1 := rfl
theorem wayE_step {T : List Bs} (hT : ∀ m ∈ T, m ≠ []) {s : Bs} (hs : s ≠ []) : wayE T s = ssum T s (fun n => wayE T (s.take (s.length - n))) := by
  unfold wayE
  rw [ways_step (rev_ne hT) (fun e => hs (List.reverse_eq_nil_iff.1 e))]
  unfold wsum ssum
  rw [List.map_map]
  refine sum_map_congr fun m hm => ?_
  simp only [Function.comp]
  have e1 : m.reverse.isPrefixOf s.reverse = m.isSuffixOf s := rfl
  rw [e1, List.length_reverse]
  by_cases hp : m.isSuffixOf s = true
  · rw [if_pos hp, if_pos hp]
    congr 1
    have := suf_le hp
    rw [List.drop_reverse]
  · rw [if_neg hp, if_neg hp]

theorem pre_eq {m s : Bs} (h : m.isPrefixOf s = true) (hl : s.length ≤ m.length) : m = s := by
  have := pre_take h
  rwa [List.take_of_length_le hl] at this
theorem suf_eq {m s : Bs} (h : m.isSuffixOf s = true) (hl : s.length ≤ m.length) : m = s := by
  have := suf_drop h
  rwa [show s.length - m.length = 0 by omega, List.drop_zero] at this
theorem suf_of_drop (m s : Bs) (n : Nat) (hn : n + m.length ≤ s.length) : m.isSuffixOf (s.drop n) = m.isSuffixOf s := by
  rw [Bool.eq_iff_iff, List.isSuffixOf_iff_suffix, List.isSuffixOf_iff_suffix, List.suffix_iff_eq_drop, List.suffix_iff_eq_drop, List.drop_drop, List.length_drop]
  rw [show n + (s.length - n - m.length) = s.length - m.length by omega]
theorem pre_of_take (m s : Bs) (n : Nat) (hn : m.length ≤ n) : m.isPrefixOf (s.take n) = m.isPrefixOf s := by
  rw [Bool.eq_iff_iff, List.isPrefixOf_iff_prefix, List.isPrefixOf_iff_prefix, List.prefix_iff_eq_take, List.prefix_iff_eq_take, List.take_take]
  rw [show min m.length n = m.length by omega]

theorem ends_same {T : List Bs} (hT : ∀ m ∈ T, m ≠ []) : ∀ (n : Nat) (s : Bs), s.length ≤ n → ways T s = wayE T s
  | 0, s, h => by
    have : s = [] := List.length_eq_zero_iff.1 (by omega)
    subst this; rfl
  | n + 1, s, h => by
    by_cases hs : s = []
    · subst hs; rfl
    · have hsl : 1 ≤ s.length := List.length_pos_iff.2 hs
      have hml : ∀ m ∈ T, 1 ≤ m.length := fun m hm => List.length_pos_iff.2 (hT m hm)
      rw [ways_step hT hs, wayE_step hT hs]
      -- what stands between one at the beginning and one at the end
      let D : Bs → Bs → Nat := fun m k => if m.isPrefixOf s = true ∧ k.isSuffixOf s = true ∧ m.length + k.length ≤ s.length then ways T ((s.drop m.length).take (s.length - m.length - k.length)) else 0
      have h1 : ∀ m ∈ T, (if m.isPrefixOf s = true then ways T (s.drop m.length) else 0) = (if m = s then 1 else 0) + (T.map fun k => D m k).sum := fun m hm => by
        by_cases hp : m.isPrefixOf s = true
        · rw [if_pos hp]
          by_cases he : m = s
          · have hz : (T.map fun k => D m k).sum = (T.map fun _ => 0).sum := sum_map_congr fun k hk => if_neg (fun hh => by
              have := hml k hk; rw [he] at hh; omega)
            rw [hz, sum_zero, if_pos he, he, List.drop_of_length_le (Nat.le_refl _), ways_nil]
          · have hlt : m.length < s.length := by
              rcases Nat.lt_or_ge m.length s.length with h | h
              · exact h
              · exact absurd (pre_eq hp h) he
            have hne : s.drop m.length ≠ [] := fun e => by have := congrArg List.length e; rw [List.length_drop] at this; simp at this; omega
            have hm1 := hml m hm
            rw [if_neg he, Nat.zero_add, ends_same hT n (s.drop m.length) (by rw [List.length_drop]; omega), wayE_step hT hne]
            unfold ssum
            refine sum_map_congr fun k hk => ?_
            show _ = if _ then _ else _
            by_cases hf : m.length + k.length ≤ s.length
            · rw [suf_of_drop k s m.length hf]
              by_cases hq : k.isSuffixOf s = true
              · rw [if_pos hq, if_pos ⟨hp, hq, hf⟩, List.length_drop]
                exact (ends_same hT n _ (by rw [List.length_take, List.length_drop]; omega)).symm
              · rw [if_neg hq, if_neg (fun hh => hq hh.2.1)]
            · rw [if_neg (c := k.isSuffixOf (s.drop m.length) = true) (fun hh => by have := suf_le hh; rw [List.length_drop] at this; omega), if_neg (fun hh => hf hh.2.2)]
        · rw [if_neg hp]
          have hz : (T.map fun k => D m k).sum = (T.map fun _ => 0).sum := sum_map_congr fun k hk => if_neg (fun hh => hp hh.1)
          rw [hz, sum_zero, if_neg (fun e => hp (by rw [e]; exact List.isPrefixOf_iff_prefix.2 (List.prefix_refl s)))]
      have h2 : ∀ k ∈ T, (if k.isSuffixOf s = true then wayE T (s.take (s.length - k.length)) else 0) = (if k = s then 1 else 0) + (T.map fun m => D m k).sum := fun k hk => by
        by_cases hq : k.isSuffixOf s = true
        · rw [if_pos hq]
          by_cases he : k = s
          · have hz : (T.map fun m => D m k).sum = (T.map fun _ => 0).sum := sum_map_congr fun m hm => if_neg (fun hh => by
              have := hml m hm; rw [he] at hh; omega)
            rw [hz, sum_zero, if_pos he, he, Nat.sub_self]; rfl
          · have hlt : k.length < s.length := by
              rcases Nat.lt_or_ge k.length s.length with h | h
              · exact h
              · exact absurd (suf_eq hq h) he
            have hne : s.take (s.length - k.length) ≠ [] := fun e => by have := congrArg List.length e; rw [List.length_take] at this; simp at this; omega
            have hk1 := hml k hk
            have hlen : (s.take (s.length - k.length)).length = s.length - k.length := by rw [List.length_take]; omega
            rw [if_neg he, Nat.zero_add, ← ends_same hT n (s.take (s.length - k.length)) (by omega), ways_step hT hne]
            unfold wsum
            refine sum_map_congr fun m hm => ?_
            show _ = if _ then _ else _
            by_cases hf : m.length + k.length ≤ s.length
            · rw [pre_of_take m s _ (by omega)]
              by_cases hp : m.isPrefixOf s = true
              · rw [if_pos hp, if_pos ⟨hp, hq, hf⟩]
                show ways T ((s.take (s.length - k.length)).drop m.length) = _
                rw [List.drop_take]
                congr 2; omega
              · rw [if_neg hp, if_neg (fun hh => hp hh.1)]
            · rw [if_neg (c := m.isPrefixOf (s.take (s.length - k.length)) = true) (fun hh => by have := pre_le hh; omega), if_neg (fun hh => hf hh.2.2)]
        · rw [if_neg hq]
          have hz : (T.map fun m => D m k).sum = (T.map fun _ => 0).sum := sum_map_congr fun m hm => if_neg (fun hh => hq hh.2.1)
          rw [hz, sum_zero, if_neg (fun e => hq (by rw [e]; exact List.isSuffixOf_iff_suffix.2 (List.suffix_refl s)))]
      unfold wsum ssum
      rw [sum_map_congr h1, sum_map_congr h2, sum_map_add, sum_map_add, sum_exch D T T]
theorem ways_end {T : List Bs} (hT : ∀ m ∈ T, m ≠ []) (s : Bs) : ways T s = wayE T s := ends_same hT _ s (Nat.le_refl _)

/-- Readings of two parts are readings of the whole. -/
theorem ways_app {T : List Bs} (hT : ∀ m ∈ T, m ≠ []) (t : Bs) : ∀ (n : Nat) (s : Bs), s.length ≤ n → ways T s * ways T t ≤ ways T (s ++ t)
  | 0, s, h => by
    have : s = [] := List.length_eq_zero_iff.1 (by omega)
    subst this; simp [ways_nil]
  | n + 1, s, h => by
    by_cases hs : s = []
    · subst hs; simp [ways_nil]
    · rw [ways_step hT hs, ways_step hT (s := s ++ t) (fun e => hs (List.append_eq_nil_iff.1 e).1)]
      unfold wsum
      rw [← sum_map_mul]
      refine sum_map_le fun m hm => ?_
      by_cases hp : m.isPrefixOf s = true
      · have hm1 : 1 ≤ m.length := List.length_pos_iff.2 (hT m hm)
        have hl := pre_le hp
        have hp2 : m.isPrefixOf (s ++ t) = true := List.isPrefixOf_iff_prefix.2 ((List.isPrefixOf_iff_prefix.1 hp).trans (List.prefix_append s t))
        rw [if_pos hp, if_pos hp2]
        show ways T (s.drop m.length) * ways T t ≤ ways T ((s ++ t).drop m.length)
        rw [List.drop_append_of_le_length hl]
        exact ways_app hT t n _ (by rw [List.length_drop]; omega)
      · rw [if_neg hp, Nat.zero_mul]; exact Nat.zero_le _
theorem ways_parts {T : List Bs} (hT : ∀ m ∈ T, m ≠ []) (s : Bs) (j : Nat) : ways T (s.take j) * ways T (s.drop j) ≤ ways T s := by
  have := ways_app hT (s.drop j) _ (s.take j) (Nat.le_refl _)
  rwa [List.take_append_drop] at this
end Go.Proofs.Ytekgmdigchobbaa
