/-
  Slices of numbers in memory; the laws' own eqIntS, markIntS, heldIntS. Used by the claims on chapter 3.
-/
import Derived.Test.YthkafalpjokfeaaGrow0
import Derived.Test.YthkafalpjokfeaaTwoW
import Derived.Test.YthkafalpjokfeaaSeqV
namespace Go.Proofs.Ythkafalpjokfeaa
open Go.RowKit
set_option linter.unusedVariables false

theorem srcV_cells {w : World} {a : Option Addr} {g : Nat} {vs : List Value} (h : SrcV w a g vs) (ho : Open w g vs.length) : ∀ j, j < vs.length → (∃ v, w.cell? ⟨g, j, none⟩ = some v) ∧ w.frozen? ⟨g, j, none⟩ = false := fun j hj =>
  ⟨⟨_, h.2 j _ (List.getElem?_eq_getElem hj)⟩, ho j hj⟩
theorem mark_blockV {W : World} {a : Option Addr} {q m : Nat} {vs : List Value} {l : List (Nat × Value)} (hs : SrcV W a q vs) (ho : Open W q vs.length) (hb : Bx W l) (hm : m < W.heap.size) (hq : 0 < vs.length → m < q ∧ ∀ p ∈ l, p.1 ≠ q) :
    ∃ k, SrcV W a k vs ∧ Open W k vs.length ∧ m < k ∧ (∀ p ∈ l, p.1 ≠ k) ∧ (0 < vs.length → k = q) := by
  by_cases h0 : 0 < vs.length
  · exact ⟨q, hs, ho, (hq h0).1, (hq h0).2, fun _ => rfl⟩
  · have hnil : vs = [] := List.length_eq_zero_iff.1 (by omega)
    subst hnil
    exact ⟨W.heap.size, ⟨fun h => by simp at h, fun j x hx => by simp at hx⟩, fun j hj => by simp at hj, hm, fun p hp e => by have := hb.lt p hp; omega, fun h => by simp at h⟩
theorem mark_blockR {W : World} {a : Option Addr} {q m : Nat} {vs : List Value} (hs : SrcV W a q vs) (ho : Open W q vs.length) (hm : m ≤ W.heap.size) (hq : 0 < vs.length → m ≤ q) :
    ∃ k, SrcV W a k vs ∧ Open W k vs.length ∧ m ≤ k ∧ (0 < vs.length → k = q) := by
  by_cases h0 : 0 < vs.length
  · exact ⟨q, hs, ho, hq h0, fun _ => rfl⟩
  · have hnil : vs = [] := List.length_eq_zero_iff.1 (by omega)
    subst hnil
    exact ⟨W.heap.size, ⟨fun h => by simp at h, fun j x hx => by simp at hx⟩, fun j hj => by simp at hj, hm, fun h => by simp at h⟩
set_option maxHeartbeats 1000000 in
theorem eqI_yes (a1 a2 : Option Addr) (g1 g2 c1 c2 : Nat) (l : List Nat) (w : World) (hl : l.length ≤ 1048576) (h1 : SrcV w a1 g1 (ints l)) (h2 : SrcV w a2 g2 (ints l)) :
    Calls Try.prog 23 #[.slice a1 l.length c1, .slice a2 l.length c2] w fun e w' => e = .returned (.bool true) ∧ Below w.heap.size w w' := by
  have H1 := Lib.hid h1
  have H2 := Lib.hid h2
  clear h1 h2
  go_enter Try.func23, Try.ntmps23
  go_wp2
  go_loopw [5] (fun v wr => ∃ (i q : Nat), v = .int .i64 i ∧ i ≤ l.length ∧ wr = w.drewN q) (fun v _ => l.length - (intOf v).toNat)
  case atStart => exact ⟨0, 0, rfl, Nat.zero_le _, rfl⟩
  case round =>
    obtain ⟨i, q, rfl, hi, rfl⟩ := hrel
    by_cases hlt : i < l.length
    · obtain rfl := H1.out.1 (by rw [ints_len]; omega)
      obtain rfl := H2.out.1 (by rw [ints_len]; omega)
      have d1 := H1.out.2 i _ (ints_at hlt)
      have d2 := H2.out.2 i _ (ints_at hlt)
      generalize l[i] = x at d1 d2
      have i0 : (0 : Int) ≤ (i : Int) := by omega
      have i1 : (i : Int) < (l.length : Int) := by omega
      go_wp2
      go_quiet (fail)
      go_wp2
      go_roundw
      case rel => exact ⟨i + 1, _, by go_num, by omega, rfl⟩
      case measure => simp [intOf]; omega
    · go_wp2
      go_ret
      exact ⟨rfl, rfl, rfl, rfl, Nat.le_refl _, fun _ _ => rfl⟩

structure MarkedI (w wr : World) (g n i : Nat) : Prop where
  grown : w.grownBy wr (some g)
  done : ∀ j, j < i → wr.cell? ⟨g, j, none⟩ = some (.int .i64 ((1 + j : Nat) : Int))
  open_ : ∀ j, j < n → (∃ v, wr.cell? ⟨g, j, none⟩ = some v) ∧ wr.frozen? ⟨g, j, none⟩ = false
theorem MarkedI.step {w wr : World} {g n i : Nat} (h : MarkedI w wr g n i) (hi : i < n) : MarkedI w (wr.setCell ⟨g, i, none⟩ (.int .i64 ((1 + i : Nat) : Int))) g n (i + 1) := by
  obtain ⟨⟨v, hv⟩, hf⟩ := h.open_ i hi
  have other : ∀ j, j ≠ i → (wr.setCell ⟨g, i, none⟩ (.int .i64 ((1 + i : Nat) : Int))).cell? ⟨g, j, none⟩ = wr.cell? ⟨g, j, none⟩ := fun j hj =>
    World.cell?_setCell_other _ _ _ _ (by intro e; cases e; exact hj rfl)
  have same : (wr.setCell ⟨g, i, none⟩ (.int .i64 ((1 + i : Nat) : Int))).cell? ⟨g, i, none⟩ = some (.int .i64 ((1 + i : Nat) : Int)) :=
    World.cell?_setCell_same' _ _ _ (by rw [hv]; rfl)
  refine ⟨grown_trans_some h.grown (grown_set i _), fun j hj => ?_, fun j hj => ⟨?_, ?_⟩⟩
  · by_cases e : j = i
    · subst e; exact same
    · rw [other j e]; exact h.done j (by omega)
  · by_cases e : j = i
    · subst e; exact ⟨_, same⟩
    · rw [other j e]; exact (h.open_ j hj).1
  · rw [World.frozen?_setCell]; exact (h.open_ j hj).2

set_option maxHeartbeats 1000000 in
theorem markI_any (a : Option Addr) (g n c : Nat) (w : World) (ha : 0 < n → a = some ⟨g, 0, none⟩) (h2 : n ≤ 1048576) (ho : ∀ j, j < n → (∃ v, w.cell? ⟨g, j, none⟩ = some v) ∧ w.frozen? ⟨g, j, none⟩ = false) :
    Calls Try.prog 27 #[.slice a n c, .int .i64 1] w fun e w' => e = .returned (.int .i64 ((1 + n : Nat) : Int)) ∧ w.grownBy w' (some g) ∧ ∀ j, j < n → w'.cell? ⟨g, j, none⟩ = some (.int .i64 ((1 + j : Nat) : Int)) := by
  have HA := Lib.hid ha
  have HO : Hid (MarkedI w w g n 0) := Lib.hid ⟨⟨rfl, rfl, rfl, Nat.le_refl _, fun _ _ _ => rfl⟩, fun j hj => absurd hj (by omega), ho⟩
  clear ha ho
  go_enter Try.func27, Try.ntmps27
  go_wp2
  go_loopw [1, 5] (fun q v wr => ∃ (i : Nat), v = .int .i64 i ∧ i ≤ n ∧ q = .int .i64 ((1 + i : Nat) : Int) ∧ Hid (MarkedI w wr g n i)) (fun _ v _ => n - (intOf v).toNat)
  case atStart => exact ⟨0, rfl, Nat.zero_le _, rfl, HO⟩
  case round =>
    obtain ⟨i, rfl, hi, rfl, HM⟩ := hrel
    by_cases hlt : i < n
    · obtain rfl := HA.out (by omega)
      obtain ⟨⟨v, hv⟩, hf⟩ := HM.out.open_ i hlt
      have HN := Lib.hid (HM.out.step hlt)
      have i0 : (0 : Int) ≤ (i : Int) := by omega
      have i1 : (i : Int) < (n : Int) := by omega
      go_wp2
      go_roundw
      case rel => exact ⟨i + 1, by go_num, by omega, by congr 1, HN⟩
      case measure => simp [intOf]; omega
    · obtain rfl : i = n := by omega
      go_wp2
      go_ret
      exact ⟨rfl, HM.out.grown, HM.out.done⟩

set_option maxHeartbeats 1000000 in
theorem heldI_any (a : Option Addr) (g n c : Nat) (w : World) (ha : 0 < n → a = some ⟨g, 0, none⟩) (h2 : n ≤ 1048576) (ho : ∀ j, j < n → w.cell? ⟨g, j, none⟩ = some (.int .i64 ((1 + j : Nat) : Int))) :
    Calls Try.prog 28 #[.slice a n c, .int .i64 1] w fun e w' => e = .returned (.int .i64 ((1 + n : Nat) : Int)) ∧ Below w.heap.size w w' := by
  have HA := Lib.hid ha
  have HO := Lib.hid ho
  clear ha ho
  go_enter Try.func28, Try.ntmps28
  go_wp2
  go_loopw [1, 5] (fun q v wr => ∃ (i : Nat), v = .int .i64 i ∧ i ≤ n ∧ q = .int .i64 ((1 + i : Nat) : Int) ∧ wr = w) (fun _ v _ => n - (intOf v).toNat)
  case atStart => exact ⟨0, rfl, Nat.zero_le _, rfl, rfl⟩
  case round =>
    obtain ⟨i, rfl, hi, rfl, hwr⟩ := hrel
    subst hwr
    by_cases hlt : i < n
    · obtain rfl := HA.out (by omega)
      have d1 := HO.out i hlt
      have i0 : (0 : Int) ≤ (i : Int) := by omega
      have i1 : (i : Int) < (n : Int) := by omega
      go_wp2
      go_roundw
      case rel => exact ⟨i + 1, by go_num, by omega, by congr 1, trivial⟩
      case measure => simp [intOf]; omega
    · obtain rfl : i = n := by omega
      go_wp2
      go_ret
      exact ⟨rfl, Below.refl _ _⟩
theorem marksI_below {W W' : World} {q n : Nat} (h : ∀ j, j < n → W.cell? ⟨q, j, none⟩ = some (.int .i64 ((1 + j : Nat) : Int))) (hb : Below W.heap.size W W') : ∀ j, j < n → W'.cell? ⟨q, j, none⟩ = some (.int .i64 ((1 + j : Nat) : Int)) := fun j hj =>
  (hb.cell (p := ⟨q, j, none⟩) (World.block_lt_of_cell? _ _ (h j hj))).trans (h j hj)
end Go.Proofs.Ythkafalpjokfeaa
