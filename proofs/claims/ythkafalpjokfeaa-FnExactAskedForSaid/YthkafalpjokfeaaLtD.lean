/-
  Chapter 11, pure: vain places, the depth of letters, the place that is asked for first, the places that are asked for, who wins. Used by the claims on chapter 11.
-/
import Derived.Test.YthkafalpjokfeaaLtL
namespace Go.Proofs.Ythkafalpjokfeaa
open Go.RowKit
set_option linter.unusedVariables false

def vainB (xs : List ByteArray) (m : List Nat) (p : Nat) : Bool := m.all fun i => ansB (atL xs i) p == ansB (atL xs (m.headD 0)) p
theorem vain_iff {xs : List ByteArray} {m : List Nat} {p : Nat} : vainB xs m p = true ↔ ∀ i ∈ m, ansB (atL xs i) p = ansB (atL xs (m.headD 0)) p := by
  unfold vainB; rw [List.all_eq_true]; simp
theorem headD_mem {m : List Nat} (h : m ≠ []) : m.headD 0 ∈ m := by
  cases m with
  | nil => exact absurd rfl h
  | cons a r => simp
theorem vain_one {xs : List ByteArray} {m : List Nat} {p : Nat} (h : m.length ≤ 1) : vainB xs m p = true := by
  rw [vain_iff]
  match m, h with
  | [], _ => intro i hi; cases hi
  | [a], _ => intro i hi; simp at hi; subst hi; rfl
  | _ :: _ :: _, h => simp at h
/-- A part of letters that are not vain is shorter. -/
theorem part_lt {xs : List ByteArray} {m : List Nat} {p q : Nat} (h : vainB xs m p = false) : (partK xs m p q).length < m.length := by
  rcases Nat.lt_or_ge (partK xs m p q).length m.length with h1 | h1
  · exact h1
  · exfalso
    have h2 : ∀ i ∈ m, (ansB (atL xs i) p == q) = true := List.length_filter_eq_length_iff.1 (Nat.le_antisymm (partK_le xs m p q) h1)
    have : vainB xs m p = true := vain_iff.2 fun i hi => by
      have a1 : ansB (atL xs i) p = q := by simpa using h2 i hi
      have a2 : ansB (atL xs (m.headD 0)) p = q := by simpa using h2 _ (headD_mem (fun e => by rw [e] at hi; cases hi))
      rw [a1, a2]
    rw [this] at h; cases h
theorem part_vain {xs : List ByteArray} {m : List Nat} {p q : Nat} (h : vainB xs m p = true) : partK xs m p q = if ansB (atL xs (m.headD 0)) p = q then m else [] := by
  have h1 := vain_iff.1 h
  unfold partK
  by_cases e : ansB (atL xs (m.headD 0)) p = q
  · rw [if_pos e, List.filter_eq_self]
    intro i hi
    rw [h1 i hi, e]; simp
  · rw [if_neg e, List.filter_eq_nil_iff]
    intro i hi
    rw [h1 i hi]
    simpa using e
/-- The parts that are not empty. -/
def prts (xs : List ByteArray) (m : List Nat) (p : Nat) : List (List Nat) := [partK xs m p 0, partK xs m p 1, partK xs m p 2].filter fun l => decide (l ≠ [])
theorem prts_mem {xs : List ByteArray} {m : List Nat} {p : Nat} {l : List Nat} : l ∈ prts xs m p ↔ l ≠ [] ∧ ∃ q, q < 3 ∧ l = partK xs m p q := by
  unfold prts
  rw [List.mem_filter]
  simp only [List.mem_cons, List.not_mem_nil, or_false, decide_eq_true_eq]
  constructor
  · rintro ⟨h | h | h, h2⟩
    · exact ⟨h2, 0, by omega, h⟩
    · exact ⟨h2, 1, by omega, h⟩
    · exact ⟨h2, 2, by omega, h⟩
  · rintro ⟨h2, q, hq, h⟩
    rcases (show q = 0 ∨ q = 1 ∨ q = 2 by omega) with rfl | rfl | rfl
    · exact ⟨.inl h, h2⟩
    · exact ⟨.inr (.inl h), h2⟩
    · exact ⟨.inr (.inr h), h2⟩
theorem part_ne {xs : List ByteArray} {m : List Nat} {p i : Nat} (hi : i ∈ m) : partK xs m p (ansB (atL xs i) p) ≠ [] := List.ne_nil_of_mem (partK_mem.2 ⟨hi, rfl⟩)
theorem prts_len {xs : List ByteArray} {m : List Nat} {p : Nat} (hm : m ≠ []) : ((prts xs m p).length = 1 ↔ vainB xs m p = true) ∧ 1 ≤ (prts xs m p).length ∧ (prts xs m p).length ≤ 3 := by
  have hle : (prts xs m p).length ≤ 3 := by unfold prts; exact List.length_filter_le _ _
  have h3 := ansB_lt (atL xs (m.headD 0)) p
  have hge : 1 ≤ (prts xs m p).length := List.length_pos_of_mem (prts_mem.2 ⟨part_ne (headD_mem hm), _, h3, rfl⟩)
  refine ⟨⟨fun h1 => ?_, fun h1 => ?_⟩, hge, hle⟩
  · rw [vain_iff]
    intro i hi
    have h4 := ansB_lt (atL xs i) p
    rcases Nat.lt_or_ge 1 1 with h | _
    · omega
    · apply Classical.byContradiction
      intro hne
      have m1 : partK xs m p (ansB (atL xs i) p) ∈ prts xs m p := prts_mem.2 ⟨part_ne hi, _, h4, rfl⟩
      have m2 : partK xs m p (ansB (atL xs (m.headD 0)) p) ∈ prts xs m p := prts_mem.2 ⟨part_ne (headD_mem hm), _, h3, rfl⟩
      obtain ⟨l, hl⟩ := List.length_eq_one_iff.1 h1
      rw [hl] at m1 m2
      have m1 := List.mem_singleton.1 m1
      have m2 := List.mem_singleton.1 m2
      have m3 : i ∈ partK xs m p (ansB (atL xs i) p) := partK_mem.2 ⟨hi, rfl⟩
      rw [m1, ← m2] at m3
      exact hne (partK_mem.1 m3).2
  · unfold prts
    rw [part_vain h1, part_vain h1, part_vain h1]
    rcases (show ansB (atL xs (m.headD 0)) p = 0 ∨ ansB (atL xs (m.headD 0)) p = 1 ∨ ansB (atL xs (m.headD 0)) p = 2 by omega) with e | e | e <;> rw [e] <;> simp [hm]

/-! ### The depth -/
def worst (xs : List ByteArray) (d : List Nat → Nat) (m : List Nat) (p : Nat) : Nat := max (max (d (partK xs m p 0)) (d (partK xs m p 1))) (d (partK xs m p 2))
def askTo (xs : List ByteArray) (d : List Nat → Nat) (m : List Nat) : Nat → Nat × Nat
  | 0 => (m.length, 0)
  | k + 1 => if vainB xs m k = true then askTo xs d m k else if 1 + worst xs d m k < (askTo xs d m k).1 then (1 + worst xs d m k, k) else askTo xs d m k
def depF (xs : List ByteArray) : Nat → List Nat → Nat
  | 0, _ => 0
  | f + 1, m => if m.length ≤ 1 then 0 else (askTo xs (depF xs f) m 5).1
def dep (xs : List ByteArray) (m : List Nat) : Nat := depF xs m.length m
/-- The depth of two letters or more, and the place that is asked for first. -/
def ask (xs : List ByteArray) (m : List Nat) : Nat × Nat := askTo xs (dep xs) m 5
theorem depF_short (xs : List ByteArray) (f : Nat) {m : List Nat} (h : m.length ≤ 1) : depF xs f m = 0 := by
  cases f with
  | zero => rfl
  | succ f => rw [depF, if_pos h]
theorem askTo_congr {xs : List ByteArray} {d d' : List Nat → Nat} {m : List Nat} (h : ∀ p q, vainB xs m p = false → d (partK xs m p q) = d' (partK xs m p q)) : ∀ k, askTo xs d m k = askTo xs d' m k
  | 0 => rfl
  | k + 1 => by
    rw [askTo, askTo, askTo_congr h k]
    by_cases hv : vainB xs m k = true
    · rw [if_pos hv, if_pos hv]
    · have hv' : vainB xs m k = false := by simpa using hv
      have hw : worst xs d m k = worst xs d' m k := by unfold worst; rw [h k 0 hv', h k 1 hv', h k 2 hv']
      rw [if_neg hv, if_neg hv, hw]
theorem depF_fuel (xs : List ByteArray) : ∀ (g f : Nat) (m : List Nat), m.length ≤ g → m.length ≤ f → depF xs f m = depF xs g m := by
  intro g
  induction g with
  | zero =>
    intro f m hg _
    rw [depF_short xs f (by omega), depF_short xs 0 (by omega)]
  | succ g ih =>
    intro f m hg hf
    by_cases h1 : m.length ≤ 1
    · rw [depF_short xs f h1, depF_short xs (g + 1) h1]
    · obtain ⟨f, rfl⟩ : ∃ f', f = f' + 1 := ⟨f - 1, by omega⟩
      rw [depF, depF, if_neg h1, if_neg h1]
      rw [askTo_congr (d := depF xs f) (d' := depF xs g) fun p q hv => ih f _ (by have := part_lt (q := q) hv; omega) (by have := part_lt (q := q) hv; omega)]
theorem dep_short (xs : List ByteArray) {m : List Nat} (h : m.length ≤ 1) : dep xs m = 0 := depF_short xs _ h
theorem dep_long (xs : List ByteArray) {m : List Nat} (h : 2 ≤ m.length) : dep xs m = (ask xs m).1 := by
  unfold dep ask
  obtain ⟨f, hf⟩ : ∃ f, m.length = f + 1 := ⟨m.length - 1, by omega⟩
  rw [hf, depF, if_neg (by omega)]
  rw [askTo_congr (d := depF xs f) (d' := dep xs) fun p q hv => by
    have := part_lt (q := q) hv
    exact depF_fuel xs _ f _ (Nat.le_refl _) (by omega)]
theorem askTo_le (xs : List ByteArray) (d : List Nat → Nat) (m : List Nat) : ∀ k, (askTo xs d m k).1 ≤ m.length
  | 0 => Nat.le_refl _
  | k + 1 => by
    have h := askTo_le xs d m k
    rw [askTo]
    split
    · exact h
    · split
      · show 1 + worst xs d m k ≤ _; omega
      · exact h
theorem dep_le (xs : List ByteArray) (m : List Nat) : dep xs m ≤ m.length := by
  by_cases h : m.length ≤ 1
  · rw [dep_short xs h]; omega
  · rw [dep_long xs (by omega)]; exact askTo_le _ _ _ _
/-- The texts of letters are different: a place parts two of them. -/
def Dif (xs : List ByteArray) (m : List Nat) : Prop := ∀ i ∈ m, ∀ j ∈ m, i ≠ j → ∃ p, p < 5 ∧ ansB (atL xs i) p ≠ ansB (atL xs j) p
theorem Dif.part {xs : List ByteArray} {m : List Nat} (h : Dif xs m) (p q : Nat) : Dif xs (partK xs m p q) := fun i hi j hj => h i (partK_mem.1 hi).1 j (partK_mem.1 hj).1
theorem part_nodup {xs : List ByteArray} {m : List Nat} (h : m.Nodup) (p q : Nat) : (partK xs m p q).Nodup := h.filter _
theorem not_vain {xs : List ByteArray} {m : List Nat} (h : Dif xs m) (hn : m.Nodup) (h2 : 2 ≤ m.length) : ∃ p, p < 5 ∧ vainB xs m p = false := by
  match m, h2 with
  | a :: b :: r, _ =>
    have hab : a ≠ b := by
      intro e; subst e
      simp at hn
    obtain ⟨p, hp, hne⟩ := h a (by simp) b (by simp) hab
    refine ⟨p, hp, ?_⟩
    rw [Bool.eq_false_iff]
    intro e
    exact hne ((vain_iff.1 e a (by simp)).trans (vain_iff.1 e b (by simp)).symm)
  | [], h2 => simp at h2
  | [_], h2 => simp at h2
theorem askTo_lt {xs : List ByteArray} {d : List Nat → Nat} {m : List Nat} (hw : ∀ p, vainB xs m p = false → 1 + worst xs d m p < m.length) : ∀ k, ((∀ j, j < k → vainB xs m j = true) ∧ askTo xs d m k = (m.length, 0)) ∨ ((∃ j, j < k ∧ vainB xs m j = false) ∧ (askTo xs d m k).1 < m.length ∧ (askTo xs d m k).2 < k ∧ vainB xs m (askTo xs d m k).2 = false)
  | 0 => .inl ⟨fun j hj => absurd hj (by omega), rfl⟩
  | k + 1 => by
    rw [askTo]
    by_cases hv : vainB xs m k = true
    · rw [if_pos hv]
      rcases askTo_lt hw k with ⟨h1, h2⟩ | ⟨⟨j, hj, hjv⟩, h2, h3, h4⟩
      · exact .inl ⟨fun j hj => by
          by_cases e : j = k
          · subst e; exact hv
          · exact h1 j (by omega), h2⟩
      · exact .inr ⟨⟨j, by omega, hjv⟩, h2, by omega, h4⟩
    · have hv' : vainB xs m k = false := by simpa using hv
      have h5 := hw k hv'
      rw [if_neg hv]
      rcases askTo_lt hw k with ⟨h1, h2⟩ | ⟨⟨j, hj, hjv⟩, h2, h3, h4⟩
      · rw [h2, if_pos h5]
        exact .inr ⟨⟨k, by omega, hv'⟩, h5, by show k < k + 1; omega, hv'⟩
      · split
        · exact .inr ⟨⟨k, by omega, hv'⟩, h5, by show k < k + 1; omega, hv'⟩
        · exact .inr ⟨⟨j, by omega, hjv⟩, h2, by omega, h4⟩
theorem dep_lt {xs : List ByteArray} : ∀ (n : Nat) (m : List Nat), m.length ≤ n → m ≠ [] → m.Nodup → Dif xs m → dep xs m < m.length := by
  intro n
  induction n with
  | zero => intro m h hne; exact absurd (List.length_eq_zero_iff.1 (by omega)) hne
  | succ n ih =>
    intro m hm hne hnd hd
    by_cases h1 : m.length ≤ 1
    · rw [dep_short xs h1]
      exact List.length_pos_iff.2 hne
    · have hw : ∀ p, vainB xs m p = false → 1 + worst xs (dep xs) m p < m.length := by
        intro p hv
        have key : ∀ q, 1 + dep xs (partK xs m p q) < m.length := by
          intro q
          have hl := part_lt (q := q) hv
          by_cases he : partK xs m p q = []
          · rw [he, dep_short xs (by simp)]; omega
          · have := ih (partK xs m p q) (by omega) he (part_nodup hnd p q) (hd.part p q)
            omega
        have k0 := key 0
        have k1 := key 1
        have k2 := key 2
        unfold worst
        omega
      rw [dep_long xs (by omega)]
      unfold ask
      rcases askTo_lt hw 5 with ⟨h3, _⟩ | ⟨_, h3, _⟩
      · obtain ⟨p, hp, hv⟩ := not_vain hd hnd (by omega)
        rw [h3 p hp] at hv; cases hv
      · exact h3
theorem worst_lt {xs : List ByteArray} {m : List Nat} (hnd : m.Nodup) (hd : Dif xs m) {p : Nat} (hv : vainB xs m p = false) : 1 + worst xs (dep xs) m p < m.length := by
  have key : ∀ q, 1 + dep xs (partK xs m p q) < m.length := by
    intro q
    have hl := part_lt (q := q) hv
    by_cases he : partK xs m p q = []
    · rw [he, dep_short xs (by simp)]
      match m, hv with
      | [], hv => rw [vain_one (by simp)] at hv; cases hv
      | [a], hv => rw [vain_one (by simp)] at hv; cases hv
      | a :: b :: r, _ => simp
    · have := dep_lt _ (partK xs m p q) (Nat.le_refl _) he (part_nodup hnd p q) (hd.part p q)
      omega
  have k0 := key 0
  have k1 := key 1
  have k2 := key 2
  unfold worst
  omega
theorem ask_spec {xs : List ByteArray} {m : List Nat} (hnd : m.Nodup) (hd : Dif xs m) (h2 : 2 ≤ m.length) : (ask xs m).1 < m.length ∧ (ask xs m).2 < 5 ∧ vainB xs m (ask xs m).2 = false := by
  rcases askTo_lt (fun p hv => worst_lt hnd hd hv) 5 with ⟨h3, _⟩ | ⟨_, h3, h4, h5⟩
  · obtain ⟨p, hp, hv⟩ := not_vain hd hnd h2
    rw [h3 p hp] at hv; cases hv
  · exact ⟨h3, h4, h5⟩
/-- The model's search, which begins with no place. -/
def mTo (xs : List ByteArray) (d : List Nat → Nat) (m : List Nat) : Nat → Option (Nat × Nat)
  | 0 => none
  | k + 1 => if vainB xs m k = true then mTo xs d m k else match mTo xs d m k with
    | none => some (1 + worst xs d m k, k)
    | some s => if 1 + worst xs d m k < s.1 then some (1 + worst xs d m k, k) else some s
theorem mTo_ask {xs : List ByteArray} {m : List Nat} (hnd : m.Nodup) (hd : Dif xs m) : ∀ k, (mTo xs (dep xs) m k = none ∧ askTo xs (dep xs) m k = (m.length, 0) ∧ ∀ j, j < k → vainB xs m j = true) ∨ mTo xs (dep xs) m k = some (askTo xs (dep xs) m k)
  | 0 => .inl ⟨rfl, rfl, fun j hj => absurd hj (by omega)⟩
  | k + 1 => by
    rw [mTo, askTo]
    by_cases hv : vainB xs m k = true
    · rw [if_pos hv, if_pos hv]
      rcases mTo_ask hnd hd k with ⟨h1, h2, h3⟩ | h1
      · exact .inl ⟨h1, h2, fun j hj => by
          by_cases e : j = k
          · subst e; exact hv
          · exact h3 j (by omega)⟩
      · exact .inr h1
    · have hv' : vainB xs m k = false := by simpa using hv
      have h5 := worst_lt hnd hd hv'
      rw [if_neg hv, if_neg hv]
      rcases mTo_ask hnd hd k with ⟨h1, h2, h3⟩ | h1
      · rw [h1, h2, if_pos h5]; exact .inr rfl
      · rw [h1]
        show _ ∨ (if 1 + worst xs (dep xs) m k < (askTo xs (dep xs) m k).1 then some (1 + worst xs (dep xs) m k, k) else some (askTo xs (dep xs) m k)) = _
        right
        split <;> rfl
theorem mTo_five {xs : List ByteArray} {m : List Nat} (hnd : m.Nodup) (hd : Dif xs m) (h2 : 2 ≤ m.length) : mTo xs (dep xs) m 5 = some (ask xs m) := by
  rcases mTo_ask hnd hd 5 with ⟨_, _, h3⟩ | h1
  · obtain ⟨p, hp, hv⟩ := not_vain hd hnd h2
    rw [h3 p hp] at hv; cases hv
  · exact h1
/-- The letters of a table are different. -/
theorem dif_table {xs : List ByteArray} (h : tableB xs = true) {m : List Nat} (hm : ∀ i ∈ m, i < xs.length) : Dif xs m := by
  obtain ⟨_, hmk, hnd⟩ := (tableB_iff xs).1 h
  intro i hi j hj hij
  have hil := hm i hi
  have hjl := hm j hj
  have ei : atL xs i = xs[i] := atL_eq (List.getElem?_eq_getElem hil)
  have ej : atL xs j = xs[j] := atL_eq (List.getElem?_eq_getElem hjl)
  rw [ei, ej]
  have mi := hmk _ (List.getElem_mem hil)
  have mj := hmk _ (List.getElem_mem hjl)
  have hne : xs[i] ≠ xs[j] := by
    have hp := List.pairwise_iff_getElem.1 (show xs.Pairwise (fun a b => a ≠ b) from hnd)
    rcases Nat.lt_or_gt_of_ne hij with h | h
    · exact hp i j hil hjl h
    · exact fun e => hp j i hjl hil h e.symm
  generalize xs[i] = x at mi hne
  generalize xs[j] = y at mj hne
  simp only [marksL, Bool.and_eq_true, decide_eq_true_eq, bl_len] at mi mj
  apply Classical.byContradiction
  intro hno
  have hall : ∀ p, p < 5 → ansB x p = ansB y p := fun p hp => Classical.byContradiction fun e => hno ⟨p, hp, e⟩
  have hsz : x.size = y.size := by
    rcases Nat.lt_trichotomy x.size y.size with h1 | h1 | h1
    · have := hall x.size (by omega)
      unfold ansB at this
      rw [if_pos (Nat.le_refl _), if_neg (by omega)] at this
      split at this <;> omega
    · exact h1
    · have := hall y.size (by omega)
      unfold ansB at this
      rw [if_pos (Nat.le_refl _), if_neg (by omega)] at this
      split at this <;> omega
  apply hne
  apply bl_inj
  refine List.ext_getElem (by rw [bl_len, bl_len, hsz]) fun p hp hp2 => ?_
  have hp5 : p < 5 := by rw [bl_len] at hp; omega
  have h1 := hall p hp5
  unfold ansB at h1
  rw [bl_len] at hp hp2
  rw [if_neg (show ¬ x.size ≤ p by omega), if_neg (show ¬ y.size ≤ p by omega), List.getElem?_eq_getElem (show p < (bl x).length by rw [bl_len]; omega), List.getElem?_eq_getElem (show p < (bl y).length by rw [bl_len]; omega)] at h1
  have ix := List.all_eq_true.1 mi.2 _ (List.getElem_mem (l := bl x) (n := p) (by rw [bl_len]; omega))
  have iy := List.all_eq_true.1 mj.2 _ (List.getElem_mem (l := bl y) (n := p) (by rw [bl_len]; omega))
  simp only [isMk, Bool.or_eq_true, beq_iff_eq] at ix iy
  rcases ix with ix | ix <;> rcases iy with iy | iy <;> rw [ix, iy] at h1 ⊢ <;> simp at h1

/-! ### The places that are asked for -/
def askedF (xs : List ByteArray) (x : ByteArray) : Nat → List Nat → List Nat
  | 0, _ => []
  | f + 1, m => if m.length ≤ 1 then [] else (ask xs m).2 :: askedF xs x f (partK xs m (ask xs m).2 (ansB x (ask xs m).2))
theorem askedF_le (xs : List ByteArray) (x : ByteArray) : ∀ f m, (askedF xs x f m).length ≤ f
  | 0, m => by simp [askedF]
  | f + 1, m => by
    rw [askedF]
    split
    · simp
    · rw [List.length_cons]; have := askedF_le xs x f (partK xs m (ask xs m).2 (ansB x (ask xs m).2)); omega

/-! ### Who wins -/
def winF (xs : List ByteArray) : Nat → List Nat → Bool
  | 0, _ => false
  | f + 1, m => (List.range 5).any fun p => !vainB xs m p && (!winF xs f (partK xs m p 0) && !winF xs f (partK xs m p 1) && !winF xs f (partK xs m p 2))
theorem winF_short (xs : List ByteArray) (f : Nat) {m : List Nat} (h : m.length ≤ 1) : winF xs f m = false := by
  cases f with
  | zero => rfl
  | succ f =>
    rw [winF, List.any_eq_false]
    intro p _
    rw [vain_one h]; simp
theorem any_congr {α : Type} {l : List α} {f g : α → Bool} (h : ∀ a ∈ l, f a = g a) : l.any f = l.any g := by
  induction l with
  | nil => rfl
  | cons a r ih => rw [List.any_cons, List.any_cons, h a (by simp), ih fun b hb => h b (by simp [hb])]
theorem winF_fuel (xs : List ByteArray) : ∀ (g f : Nat) (m : List Nat), m.length ≤ g → m.length ≤ f → winF xs f m = winF xs g m := by
  intro g
  induction g with
  | zero =>
    intro f m hg _
    rw [winF_short xs f (by omega), winF_short xs 0 (by omega)]
  | succ g ih =>
    intro f m hg hf
    by_cases h1 : m.length ≤ 1
    · rw [winF_short xs f h1, winF_short xs (g + 1) h1]
    · obtain ⟨f, rfl⟩ : ∃ f', f = f' + 1 := ⟨f - 1, by omega⟩
      rw [winF, winF]
      apply any_congr
      intro p _
      cases hv : vainB xs m p with
      | true => rfl
      | false =>
        have k : ∀ q, winF xs f (partK xs m p q) = winF xs g (partK xs m p q) := fun q => ih f _ (by have := part_lt (q := q) hv; omega) (by have := part_lt (q := q) hv; omega)
        rw [k 0, k 1, k 2]
def win (xs : List ByteArray) (m : List Nat) : Bool := winF xs m.length m
/-- A place with which who asks wins. -/
def winAt (xs : List ByteArray) (m : List Nat) (p : Nat) : Bool := !vainB xs m p && (!win xs (partK xs m p 0) && !win xs (partK xs m p 1) && !win xs (partK xs m p 2))
theorem win_eq (xs : List ByteArray) (m : List Nat) : win xs m = (List.range 5).any (winAt xs m) := by
  by_cases h1 : m.length ≤ 1
  · unfold win
    rw [winF_short xs _ h1]
    symm
    rw [List.any_eq_false]
    intro p _
    unfold winAt
    rw [vain_one h1]; simp
  · obtain ⟨f, hf⟩ : ∃ f, m.length = f + 1 := ⟨m.length - 1, by omega⟩
    unfold win
    rw [hf, winF]
    apply any_congr
    intro p _
    unfold winAt
    cases hv : vainB xs m p with
    | true => rfl
    | false =>
      have k : ∀ q, winF xs f (partK xs m p q) = win xs (partK xs m p q) := fun q => winF_fuel xs _ f _ (Nat.le_refl _) (by have := part_lt (q := q) hv; omega)
      rw [k 0, k 1, k 2]
end Go.Proofs.Ythkafalpjokfeaa
