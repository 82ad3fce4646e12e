/-
  Plain facts on traces: which lists are traces, what lengths are read as, drifts, the best unit, lists that are filled, dropped, joined. No program. Used by the claims on chapter 5.
-/
import Derived.Test.YthkafalpjokfeaaSeqV
namespace Go.Proofs.Ythkafalpjokfeaa
set_option linter.unusedVariables false

def intz (l : List Int) : List Value := l.map fun n : Int => Value.int .i64 n
theorem intz_len (l : List Int) : (intz l).length = l.length := by simp [intz]
theorem intz_at {l : List Int} {k : Nat} (h : k < l.length) : (intz l)[k]? = some (.int .i64 l[k]) := by simp [intz, h]
def zs (m : List Nat) : List Int := m.map fun n : Nat => (n : Int)
theorem zs_len (m : List Nat) : (zs m).length = m.length := by simp [zs]
theorem zs_ints (m : List Nat) : intz (zs m) = ints m := by simp [intz, zs, ints]
theorem zs_at {m : List Nat} {k : Nat} (h : k < m.length) : (zs m)[k]'(by rw [zs_len]; exact h) = (m[k] : Int) := by simp [zs]
def okLen (x : Int) : Bool := decide (1 ≤ x) && decide (x ≤ 999)
def traceZ (l : List Int) : Bool := decide (l.length % 2 = 1) && (decide (l.length ≤ 143) && l.all okLen)
/-- A trace, as a list of natural numbers. -/
structure IsTr (m : List Nat) : Prop where
  odd : m.length % 2 = 1
  len : m.length ≤ 143
  each : ∀ x ∈ m, 1 ≤ x ∧ x ≤ 999
theorem okLen_iff (x : Int) : okLen x = true ↔ 1 ≤ x ∧ x ≤ 999 := by simp [okLen]
theorem traceZ_nat {l : List Int} (h : traceZ l = true) : ∃ m, l = zs m ∧ IsTr m := by
  simp only [traceZ, Bool.and_eq_true, decide_eq_true_eq, List.all_eq_true] at h
  obtain ⟨h1, h2, h3⟩ := h
  refine ⟨l.map Int.toNat, ?_, ⟨by simpa using h1, by simpa using h2, fun x hx => ?_⟩⟩
  · rw [zs, List.map_map]
    conv => lhs; rw [← List.map_id l]
    exact List.map_congr_left fun x hx => by
      have := (okLen_iff x).1 (h3 x hx)
      simp only [id_eq, Function.comp_apply]
      omega
  · obtain ⟨y, hy, rfl⟩ := List.mem_map.1 hx
    have := (okLen_iff y).1 (h3 y hy)
    omega
theorem traceZ_zs (m : List Nat) : traceZ (zs m) = true ↔ IsTr m := by
  constructor
  · intro h
    obtain ⟨m2, e, h2⟩ := traceZ_nat h
    have : m = m2 := by
      have := congrArg (List.map Int.toNat) e
      simpa [zs, List.map_map, Function.comp_def] using this
    rw [this]; exact h2
  · intro h
    simp only [traceZ, Bool.and_eq_true, decide_eq_true_eq, List.all_eq_true, zs_len]
    refine ⟨h.odd, h.len, fun x hx => ?_⟩
    obtain ⟨y, hy, rfl⟩ := List.mem_map.1 hx
    have := h.each y hy
    exact (okLen_iff _).2 (by omega)
theorem IsTr.at {m : List Nat} (h : IsTr m) {k : Nat} (hk : k < m.length) : 1 ≤ m[k] ∧ m[k] ≤ 999 := h.each _ (List.getElem_mem hk)

/-! ### What a length is read as -/
def tms (i x u : Nat) : Nat := if x < 2 * u then 1 else if i % 2 = 0 ∨ x < 5 * u then 3 else 7
theorem tms_bd (i x u : Nat) : 1 ≤ tms i x u ∧ tms i x u ≤ 7 := by unfold tms; repeat' split
                                                                   all_goals omega
def absd (x e : Nat) : Nat := (x - e) + (e - x)
def drTo (m : List Nat) (u : Nat) : Nat → Nat
  | 0 => 0
  | k + 1 => drTo m u k + absd (m.getD k 0) (tms k (m.getD k 0) u * u)
theorem drTo_succ {m : List Nat} {u k : Nat} (h : k < m.length) : drTo m u (k + 1) = drTo m u k + absd m[k] (tms k m[k] u * u) := by
  rw [drTo, List.getD_eq_getElem?_getD, List.getElem?_eq_getElem h]; rfl
theorem dr_step (i x u : Nat) (hx : x ≤ 999) (hu : u ≤ 99) : absd x (tms i x u * u) ≤ 1692 ∧ tms i x u * u ≤ 693 := by
  have h1 := (tms_bd i x u).2
  have h2 : tms i x u * u ≤ 7 * 99 := Nat.mul_le_mul h1 hu
  unfold absd
  omega
theorem drTo_le {m : List Nat} {u : Nat} (h : IsTr m) (hu : u ≤ 99) : ∀ k, k ≤ m.length → drTo m u k ≤ 1692 * k
  | 0, _ => by simp [drTo]
  | k + 1, hk => by
    rw [drTo_succ (by omega)]
    have := drTo_le h hu k (by omega)
    have := (dr_step k m[k] u (h.at (by omega)).2 hu).1
    omega
def drL (m : List Nat) (u : Nat) : Nat := drTo m u m.length
theorem drL_le {m : List Nat} {u : Nat} (h : IsTr m) (hu : u ≤ 99) : drL m u ≤ 300000 := by
  have := drTo_le h hu m.length (Nat.le_refl _)
  have := h.len
  unfold drL; omega
/-- The least of the first k units with the least drift, and this drift. -/
def bestTo (m : List Nat) : Nat → Nat × Nat
  | 0 => (1, drL m 1)
  | k + 1 => if drL m (k + 2) < (bestTo m k).2 then (k + 2, drL m (k + 2)) else bestTo m k
theorem bestTo_bd {m : List Nat} (h : IsTr m) : ∀ k, k ≤ 98 → (bestTo m k).1 ≤ k + 1 ∧ (bestTo m k).2 ≤ 300000
  | 0, _ => ⟨Nat.le_refl _, drL_le h (by omega)⟩
  | k + 1, hk => by
    have := bestTo_bd h k (by omega)
    have := drL_le h (u := k + 2) (by omega)
    rw [bestTo]
    split
    · exact ⟨Nat.le_refl _, this⟩
    · omega

/-! ### Stretched -/
def strTo (m : List Nat) (t b k : Nat) : List Nat := (m.take k).map fun x => x * t / b
theorem strTo_succ {m : List Nat} {t b k : Nat} (h : k < m.length) : strTo m t b (k + 1) = strTo m t b k ++ [m[k] * t / b] := by
  unfold strTo
  rw [List.take_add_one, List.getElem?_eq_getElem h, List.map_append]
  rfl
theorem strTo_len {m : List Nat} {t b k : Nat} (h : k ≤ m.length) : (strTo m t b k).length = k := by simp [strTo, Nat.min_eq_left h]

/-! ### Filled -/
/-- What the first 2 k + 1 lengths are filled to: all but the last one, and the last one. -/
def fillTo (m : List Nat) (least : Nat) : Nat → List Nat × Nat
  | 0 => ([], m.getD 0 0)
  | k + 1 => if m.getD (2 * k + 1) 0 < least then ((fillTo m least k).1, (fillTo m least k).2 + (m.getD (2 * k + 1) 0 + m.getD (2 * k + 2) 0)) else ((fillTo m least k).1 ++ [(fillTo m least k).2, m.getD (2 * k + 1) 0], m.getD (2 * k + 2) 0)
theorem getD_tr {m : List Nat} {k : Nat} (h : k < m.length) : m.getD k 0 = m[k] := by rw [List.getD_eq_getElem?_getD, List.getElem?_eq_getElem h]; rfl
theorem fillTo_less {m : List Nat} {least k : Nat} (h : 2 * k + 2 < m.length) (hx : m[2 * k + 1] < least) : fillTo m least (k + 1) = ((fillTo m least k).1, (fillTo m least k).2 + (m[2 * k + 1] + m[2 * k + 2])) := by
  rw [fillTo, getD_tr (by omega), getD_tr h, if_pos hx]
theorem fillTo_more {m : List Nat} {least k : Nat} (h : 2 * k + 2 < m.length) (hx : ¬ m[2 * k + 1] < least) : fillTo m least (k + 1) = ((fillTo m least k).1 ++ [(fillTo m least k).2, m[2 * k + 1]], m[2 * k + 2]) := by
  rw [fillTo, getD_tr (by omega), getD_tr h, if_neg hx]
theorem fillTo_bd {m : List Nat} (hm : IsTr m) (least : Nat) : ∀ k, 2 * k < m.length → (fillTo m least k).2 ≤ 999 * (2 * k + 1) ∧ (fillTo m least k).1.length ≤ 2 * k
  | 0, h => ⟨by rw [fillTo, getD_tr h]; exact (hm.at h).2, by simp [fillTo]⟩
  | k + 1, h => by
    obtain ⟨h1, h2⟩ := fillTo_bd hm least k (by omega)
    have h3 := (hm.at (k := 2 * k + 1) (by omega)).2
    have h4 := (hm.at (k := 2 * k + 2) (by omega)).2
    by_cases hx : m[2 * k + 1] < least
    · rw [fillTo_less (by omega) hx]
      exact ⟨by simp only; omega, by simp only; omega⟩
    · rw [fillTo_more (by omega) hx]
      exact ⟨by simp only; omega, by simp only [List.length_append, List.length_cons, List.length_nil]; omega⟩
def fillL (m : List Nat) (least : Nat) : List Nat := (fillTo m least (m.length / 2)).1 ++ [(fillTo m least (m.length / 2)).2]

/-! ### Dropped -/
/-- What is left of the first k lengths, and how long the key has been up since. -/
def dropTo (m : List Nat) (least : Nat) : Nat → List Nat × Nat
  | 0 => ([], 0)
  | k + 1 => if k % 2 = 1 ∨ m.getD k 0 < least then ((dropTo m least k).1, (dropTo m least k).2 + m.getD k 0) else if (dropTo m least k).1 = [] then ([m.getD k 0], 0) else ((dropTo m least k).1 ++ [(dropTo m least k).2, m.getD k 0], 0)
theorem dropTo_up {m : List Nat} {least k : Nat} (h : k < m.length) (hx : k % 2 = 1 ∨ m[k] < least) : dropTo m least (k + 1) = ((dropTo m least k).1, (dropTo m least k).2 + m[k]) := by
  rw [dropTo, getD_tr h, if_pos hx]
theorem dropTo_first {m : List Nat} {least k : Nat} (h : k < m.length) (hx : ¬ (k % 2 = 1 ∨ m[k] < least)) (hn : (dropTo m least k).1 = []) : dropTo m least (k + 1) = ([m[k]], 0) := by
  rw [dropTo, getD_tr h, if_neg hx, if_pos hn]
theorem dropTo_more {m : List Nat} {least k : Nat} (h : k < m.length) (hx : ¬ (k % 2 = 1 ∨ m[k] < least)) (hn : (dropTo m least k).1 ≠ []) : dropTo m least (k + 1) = ((dropTo m least k).1 ++ [(dropTo m least k).2, m[k]], 0) := by
  rw [dropTo, getD_tr h, if_neg hx, if_neg hn]
theorem dropTo_bd {m : List Nat} (hm : IsTr m) (least : Nat) : ∀ k, k ≤ m.length → (dropTo m least k).2 ≤ 999 * k ∧ (dropTo m least k).1.length ≤ 2 * k
  | 0, h => ⟨by simp [dropTo], by simp [dropTo]⟩
  | k + 1, h => by
    obtain ⟨h1, h2⟩ := dropTo_bd hm least k (by omega)
    have h3 := (hm.at (k := k) (by omega)).2
    by_cases hx : k % 2 = 1 ∨ m[k] < least
    · rw [dropTo_up (by omega) hx]
      exact ⟨by simp only; omega, by simp only; omega⟩
    · by_cases hn : (dropTo m least k).1 = []
      · rw [dropTo_first (by omega) hx hn]
        exact ⟨by simp only; omega, by simp only [List.length_cons, List.length_nil]; omega⟩
      · rw [dropTo_more (by omega) hx hn]
        exact ⟨by simp only; omega, by simp only [List.length_append, List.length_cons, List.length_nil]; omega⟩
end Go.Proofs.Ythkafalpjokfeaa
