/-
  sort.Slice over isBefore at few texts: the closure, insertionSort_func. Used by the claims on chapter 8.
-/
import Derived.Test.YtdphjnbelggcfaaSwtS
import Derived.Deep.RegionHeld3
namespace Go.Proofs.Ytdphjnbelggcfaa
open Go.RowKit
set_option linter.unusedVariables false

/-! ### Plain -/
def gB (ys : List ByteArray) (k : Nat) : ByteArray := ys.getD k ⟨#[]⟩
theorem gB_mem {ys : List ByteArray} {k : Nat} (h : k < ys.length) : gB ys k ∈ ys := by
  unfold gB
  rw [List.getD_eq_getElem?_getD, List.getElem?_eq_getElem h]; exact List.getElem_mem h
theorem gB_of {ys : List ByteArray} {x : ByteArray} (h : x ∈ ys) : ∃ k, k < ys.length ∧ gB ys k = x := by
  obtain ⟨k, hk, rfl⟩ := List.getElem_of_mem h
  exact ⟨k, hk, by unfold gB; rw [List.getD_eq_getElem?_getD, List.getElem?_eq_getElem hk]; rfl⟩
theorem sw2_gB {ys : List ByteArray} {i j k : Nat} (hi : i < ys.length) (hj : j < ys.length) (hk : k < ys.length) : gB (sw2 ys i j) k = if k = j then gB ys i else if k = i then gB ys j else gB ys k := sw2_at hi hj hk
theorem sw2_same {ys : List ByteArray} {i j : Nat} (hi : i < ys.length) (hj : j < ys.length) (x : ByteArray) : x ∈ sw2 ys i j ↔ x ∈ ys := by
  constructor
  · intro h
    exact sw2_mem hi hj (P := fun x => x ∈ ys) (fun x h => h) x h
  · intro h
    obtain ⟨k, hk, rfl⟩ := gB_of h
    have e : ∃ k', k' < ys.length ∧ gB (sw2 ys i j) k' = gB ys k := by
      by_cases e1 : k = i
      · exact ⟨j, hj, by rw [sw2_gB hi hj hj, if_pos rfl, e1]⟩
      · by_cases e2 : k = j
        · refine ⟨i, hi, ?_⟩
          rw [sw2_gB hi hj hi]
          by_cases e3 : i = j
          · rw [if_pos e3, e2, e3]
          · rw [if_neg e3, if_pos rfl, e2]
        · exact ⟨k, hk, by rw [sw2_gB hi hj hk, if_neg e2, if_neg e1]⟩
    obtain ⟨k', hk', e⟩ := e
    rw [← e]
    exact gB_mem (by rw [sw2_len]; exact hk')
def DifB (ys : List ByteArray) : Prop := ∀ p q, p < q → q < ys.length → gB ys p ≠ gB ys q
theorem sw2_dif {ys : List ByteArray} {i j : Nat} (hi : i < ys.length) (hj : j < ys.length) (h : DifB ys) : DifB (sw2 ys i j) := fun p q hpq hq => by
  rw [sw2_len] at hq
  have h' : ∀ p q, p ≠ q → p < ys.length → q < ys.length → gB ys p ≠ gB ys q := fun p q hne hp hq => by
    rcases Nat.lt_or_gt_of_ne hne with h1 | h1
    · exact h p q h1 hq
    · exact Ne.symm (h q p h1 hp)
  rw [sw2_gB hi hj (by omega), sw2_gB hi hj hq]
  by_cases a1 : p = j
  · rw [if_pos a1, if_neg (by omega)]
    by_cases a2 : q = i
    · rw [if_pos a2]; exact h' _ _ (by omega) hi hj
    · rw [if_neg a2]; exact h' _ _ (by omega) hi hq
  · rw [if_neg a1]
    by_cases a2 : p = i
    · rw [if_pos a2]
      by_cases a3 : q = j
      · rw [if_pos a3]; exact h' _ _ (by omega) hj hi
      · rw [if_neg a3, if_neg (by omega)]; exact h' _ _ (by omega) hj hq
    · rw [if_neg a2]
      by_cases a3 : q = j
      · rw [if_pos a3]; exact h' _ _ (by omega) (by omega) hi
      · rw [if_neg a3]
        by_cases a4 : q = i
        · rw [if_pos a4]; exact h' _ _ (by omega) (by omega) hj
        · rw [if_neg a4]; exact h' _ _ (by omega) (by omega) hq
/-- Sorted but for the text that is being put to its place. -/
def InsI (ys : List ByteArray) (i j : Nat) : Prop := ∀ p q, p < q → q ≤ i → q ≠ j → befL (bl (gB ys p)) (bl (gB ys q)) = true
def SrtI (ys : List ByteArray) (i : Nat) : Prop := ∀ p q, p < q → q < i → befL (bl (gB ys p)) (bl (gB ys q)) = true
theorem insI_start {ys : List ByteArray} {i : Nat} (h : SrtI ys i) : InsI ys i i := fun p q h1 h2 h3 => h p q h1 (by omega)
theorem insI_step {ys : List ByteArray} {i j : Nat} (h : InsI ys i j) (hj : 0 < j) (hji : j ≤ i) (hi : i < ys.length) (hb : befL (bl (gB ys j)) (bl (gB ys (j - 1))) = true) : InsI (sw2 ys j (j - 1)) i (j - 1) := fun p q hpq hq hne => by
  rw [sw2_gB (by omega) (by omega) (by omega), sw2_gB (by omega) (by omega) (by omega)]
  by_cases a1 : q = j
  · rw [if_neg (by omega : ¬ q = j - 1), if_pos a1]
    by_cases a2 : p = j - 1
    · rw [if_pos a2]; exact hb
    · rw [if_neg a2, if_neg (by omega)]; exact h p (j - 1) (by omega) (by omega) (by omega)
  · rw [if_neg (by omega : ¬ q = j - 1), if_neg a1]
    by_cases a2 : p = j - 1
    · rw [if_pos a2]; exact h j q (by omega) hq (by omega)
    · rw [if_neg a2]
      by_cases a3 : p = j
      · rw [if_pos a3]; exact h (j - 1) q (by omega) hq (by omega)
      · rw [if_neg a3]; exact h p q hpq hq (by omega)
theorem insI_stop {ys : List ByteArray} {i j : Nat} (h : InsI ys i j) (hd : DifB ys) (hji : j ≤ i) (hi : i < ys.length) (hb : j = 0 ∨ befL (bl (gB ys j)) (bl (gB ys (j - 1))) = false) : SrtI ys (i + 1) := fun p q hpq hq => by
  by_cases e : q = j
  · subst e
    rcases hb with hb | hb
    · omega
    · have hne : bl (gB ys (q - 1)) ≠ bl (gB ys q) := fun e => hd (q - 1) q (by omega) (by omega) (bl_inj e)
      have h1 : befL (bl (gB ys (q - 1))) (bl (gB ys q)) = true := by
        rcases bef_total hne with h2 | h2
        · exact h2
        · rw [h2] at hb; cases hb
      by_cases e2 : p = q - 1
      · rw [e2]; exact h1
      · exact bef_trans (h p (q - 1) (by omega) (by omega) (by omega)) h1
  · exact h p q hpq (by omega) e

/-- Texts that are sorted: they are the only ones. -/
def SrtB (ys : List ByteArray) : Prop := ys.Pairwise fun x y => befL (bl x) (bl y) = true
theorem srtB_of {ys : List ByteArray} (h : SrtI ys ys.length) : SrtB ys := List.pairwise_iff_getElem.2 fun p q hp hq hpq => by
  have := h p q hpq hq
  unfold gB at this
  rw [List.getD_eq_getElem?_getD, List.getD_eq_getElem?_getD, List.getElem?_eq_getElem hp, List.getElem?_eq_getElem hq] at this
  exact this
theorem srt_unique : ∀ {l1 l2 : List ByteArray}, SrtB l1 → SrtB l2 → (∀ x, x ∈ l1 ↔ x ∈ l2) → l1 = l2
  | [], [], _, _, _ => rfl
  | [], y :: l2, _, _, h => absurd ((h y).2 (by simp)) (by simp)
  | x :: l1, [], _, _, h => absurd ((h x).1 (by simp)) (by simp)
  | x :: l1, y :: l2, h1, h2, h => by
    unfold SrtB at h1 h2
    rw [List.pairwise_cons] at h1 h2
    have e : x = y := by
      have hx := (h x).1 (by simp)
      have hy := (h y).2 (by simp)
      rcases List.mem_cons.1 hx with hx | hx
      · exact hx
      · rcases List.mem_cons.1 hy with hy | hy
        · exact hy.symm
        · have a := h2.1 x hx
          have b := h1.1 y hy
          rw [bef_asymm a] at b
          cases b
    subst e
    congr 1
    refine srt_unique h1.2 h2.2 fun z => ?_
    constructor
    · intro hz
      rcases List.mem_cons.1 ((h z).1 (by simp [hz])) with e | hz2
      · subst e; have := h1.1 z hz; rw [bef_irrefl] at this; cases this
      · exact hz2
    · intro hz
      rcases List.mem_cons.1 ((h z).2 (by simp [hz])) with e | hz2
      · subst e; have := h2.1 z hz; rw [bef_irrefl] at this; cases this
      · exact hz2

/-! ### The closure -/
theorem less_any (X B cap : Nat) (ys : List ByteArray) (i j n : Nat) (W : World) (hn : n = ys.length) (hX : W.cell? ⟨X, 0, none⟩ = some (.slice (some ⟨B, 0, none⟩) n cap)) (hr : RowO W B ys) (hmk : ∀ y ∈ ys, marksL (bl y) = true) (hi : i < n) (hj : j < n) :
    Calls Try.prog 154 #[.int .i64 i, .int .i64 j, .pointer (some ⟨X, 0, none⟩)] W fun e w' => e = .returned (.bool (befL (bl (gB ys i)) (bl (gB ys j)))) ∧ Below W.heap.size W w' := by
  have hil : i < ys.length := by omega
  have hjl : j < ys.length := by omega
  have F := Lib.hid fun w => isBefore_any (gB ys i) (gB ys j) w (hmk _ (gB_mem hil)) (hmk _ (gB_mem hjl))
  have d1 := hr.cell i hil
  have d2 := hr.cell j hjl
  change W.cell? _ = some (.string (gB ys i)) at d1
  change W.cell? _ = some (.string (gB ys j)) at d2
  have i0 : (0 : Int) ≤ (i : Int) := by omega
  have i1 : (i : Int) < (n : Int) := by omega
  have j0 : (0 : Int) ≤ (j : Int) := by omega
  have j1 : (j : Int) < (n : Int) := by omega
  generalize gB ys i = x at *
  generalize gB ys j = y at *
  have HBd : Hid (Below W.heap.size W W.drew) := Lib.hid (Below.refl W.heap.size W).drew
  have HF : Hid (∀ w', Below W.heap.size W w' → w'.cell? ⟨X, 0, none⟩ = some (.slice (some ⟨B, 0, none⟩) n cap) ∧ w'.cell? ⟨B, i, none⟩ = some (.string x) ∧ w'.cell? ⟨B, j, none⟩ = some (.string y)) := Lib.hid fun w' hb =>
    ⟨(hb.cell (World.block_lt_of_cell? _ _ hX)).trans hX, (hb.cell (World.block_lt_of_cell? _ _ d1)).trans d1, (hb.cell (World.block_lt_of_cell? _ _ d2)).trans d2⟩
  clear hr hmk hn hil hjl hi hj
  go_enter Try.func154, Try.ntmps154
  go_wp2
  go_region_held3 (fun w' => w'.cell? ⟨X, 0, none⟩ = some (.slice (some ⟨B, 0, none⟩) n cap) ∧ w'.cell? ⟨B, i, none⟩ = some (.string x) ∧ w'.cell? ⟨B, j, none⟩ = some (.string y))
    (first
      | with_reducible exact HF.out _ HB4.out
      | with_reducible exact HF.out _ HBd.out)
    ((first
      | (go_at_call 155; refine (F.out _).mono ?_; rintro e w4 ⟨rfl, hb4⟩; have HB4 : Hid (Below W.heap.size W w4) := Lib.hid (HBd.out.trans (hb4.mono HBd.out.size)); clear hb4)
      | fail))
  all_goals (
    go_wp2
    go_ret
    exact ⟨rfl, HB4.out⟩)
end Go.Proofs.Ytdphjnbelggcfaa
