/-
  Slices of numbers in memory; the laws' own eqIntS, markIntS, heldIntS. Used by the claims on chapter 3.
-/
import Derived.Test.YtekgmdigchobbaaMarkT
import Derived.Test.YtekgmdigchobbaaTwoW
namespace Go.Proofs.Ytekgmdigchobbaa
open Go.RowKit
set_option linter.unusedVariables false

/-- What a slice in memory is told by: its cells from the beginning of a block. -/
def SrcV (w : World) (a : Option Addr) (g : Nat) (vs : List Value) : Prop := (0 < vs.length → a = some ⟨g, 0, none⟩) ∧ ∀ (j : Nat) v, vs[j]? = some v → w.cell? ⟨g, j, none⟩ = some v
theorem SrcV.below {w w' : World} {a : Option Addr} {g : Nat} {vs : List Value} (h : SrcV w a g vs) (hb : Below w.heap.size w w') : SrcV w' a g vs :=
  ⟨h.1, fun j v hv => (hb.cell (World.block_lt_of_cell? _ _ (h.2 j v hv))).trans (h.2 j v hv)⟩
theorem SrcV.alloc {w : World} {a : Option Addr} {g : Nat} {vs : List Value} (h : SrcV w a g vs) (o : Obj) : SrcV (w.alloc o) a g vs := h.below (below_alloc w o)
theorem srcV_lt {w : World} {a : Option Addr} {g : Nat} {vs : List Value} (h : SrcV w a g vs) (h0 : 0 < vs.length) : g < w.heap.size :=
  World.block_lt_of_cell? w ⟨g, 0, none⟩ (h.2 0 _ (List.getElem?_eq_getElem h0))
theorem SrcV.grown {w w' : World} {a : Option Addr} {g q : Nat} {vs : List Value} (h : SrcV w a g vs) (hg : w.grownBy w' (some q)) (hne : 0 < vs.length → g ≠ q) : SrcV w' a g vs :=
  ⟨h.1, fun j v hv => (World.cell?_of_block (w := w) (a := ⟨g, j, none⟩) (hg.block g (World.block_lt_of_cell? _ _ (h.2 j v hv)) (fun e => hne (Nat.lt_of_le_of_lt (Nat.zero_le _) (List.getElem?_eq_some_iff.1 hv).1) (by injection e)))).trans (h.2 j v hv)⟩
theorem srcV_cells {w : World} {a : Option Addr} {g : Nat} {vs : List Value} (h : SrcV w a g vs) (ho : Open w g vs.length) : ∀ j, j < vs.length → (∃ v, w.cell? ⟨g, j, none⟩ = some v) ∧ w.frozen? ⟨g, j, none⟩ = false := fun j hj =>
  ⟨⟨_, h.2 j _ (List.getElem?_eq_getElem hj)⟩, ho j hj⟩
theorem mark_blockV {W : World} {a : Option Addr} {q m : Nat} {vs : List Value} {l : List (Nat × Value)} (hs : SrcV W a q vs) (ho : Open W q vs.length) (hb : Bx W l) (hm : m < W.heap.size) (hq : 0 < vs.length → m < q ∧ ∀ p ∈ l, p.1 ≠ q) :
    ∃ k, SrcV W a k vs ∧ Open W k vs.length ∧ m < k ∧ (∀ p ∈ l, p.1 ≠ k) ∧ (0 < vs.length → k = q) := by
  by_cases h0 : 0 < vs.length
  · exact ⟨q, hs, ho, (hq h0).1, (hq h0).2, fun _ => rfl⟩
  · have hnil : vs = [] := List.length_eq_zero_iff.1 (by omega)
    subst hnil
    exact ⟨W.heap.size, ⟨fun h => by simp at h, fun j x hx => by simp at hx⟩, fun j hj => by simp at hj, hm, fun p hp e => by have := hb.lt p hp; omega, fun h => by simp at h⟩
/-- How a function ends that answers with a slice of n elements and a bool: one of its own, or none. -/
def SeqOut (vs : List Value) (n : Nat) (ok : Bool) (W : World) (e : Ending) (W' : World) : Prop :=
  ∃ a g c, e = .returned (.tuple #[.slice a n c, .bool ok]) ∧ SrcV W' a g vs ∧ (0 < vs.length → W.heap.size ≤ g) ∧ (∀ j, j < vs.length → W'.frozen? ⟨g, j, none⟩ = false) ∧ Below W.heap.size W W'
theorem seqOut_none {W W' : World} (hb : Below W.heap.size W W') : SeqOut [] 0 false W (.returned (.tuple #[.slice none 0 0, .bool false])) W' :=
  ⟨none, W.heap.size, 0, rfl, ⟨fun h => by simp at h, fun j x hx => by simp at hx⟩, fun h => by simp at h, fun j hj => by simp at hj, hb⟩
/-- A row that a walk built by append ends so. -/
theorem seq_of_row {W : World} {base : Nat} {e : TypeId} {size : Nat} {v : Value} {n : Nat} {vs : List Value} (h : W.ownsRow base e size v n vs) : ∃ a g c, v = .slice a n c ∧ SrcV W a g vs ∧ (0 < vs.length → base ≤ g) ∧ (∀ j, j < vs.length → W.frozen? ⟨g, j, none⟩ = false) := by
  have h' := h
  obtain ⟨h1, h2⟩ := h
  rcases h2 with ⟨rfl, rfl⟩ | ⟨g, cap, cur, rfl, hg, hh, hcap, hm, hsz, htk⟩
  · have hv : vs = [] := List.length_eq_zero_iff.1 (by simpa using h1)
    subst hv
    exact ⟨none, 0, 0, rfl, ⟨fun h => by simp at h, fun j x hx => by simp at hx⟩, fun h => by simp at h, fun j hj => by simp at hj⟩
  · refine ⟨_, g, cap, rfl, ⟨fun _ => rfl, fun j u hu => ?_⟩, fun _ => hg, fun j hj => ?_⟩
    · have := h'.cells (g := g) rfl j u hu
      rw [Addr.add_lit, Nat.zero_add] at this
      exact this
    · unfold World.frozen?
      rw [hh]
      simp

def ints (l : List Nat) : List Value := l.map fun n : Nat => Value.int .i64 (n : Int)
theorem ints_len (l : List Nat) : (ints l).length = l.length := by simp [ints]
theorem ints_at {l : List Nat} {k : Nat} (h : k < l.length) : (ints l)[k]? = some (.int .i64 (l[k] : Int)) := by simp [ints, h]
theorem ints_snoc (l : List Nat) (n : Nat) : ints (l ++ [n]) = ints l ++ [.int .i64 (n : Int)] := by simp [ints]

set_option maxHeartbeats 1000000 in
theorem eqI_yes (a1 a2 : Option Addr) (g1 g2 c1 c2 : Nat) (l : List Nat) (w : World) (hl : l.length ≤ 1048576) (h1 : SrcV w a1 g1 (ints l)) (h2 : SrcV w a2 g2 (ints l)) :
    Calls Try.prog 58 #[.slice a1 l.length c1, .slice a2 l.length c2] w fun e w' => e = .returned (.bool true) ∧ Below w.heap.size w w' := by
  have H1 := Lib.hid h1
  have H2 := Lib.hid h2
  clear h1 h2
  go_enter Try.func58, Try.ntmps58
  go_wp2
  go_loopw [5] (fun v wr => ∃ (i q : Nat), v = .int .i64 i ∧ i ≤ l.length ∧ wr = w.drewN q) (fun v _ => l.length - (intOf v).toNat)
  case atStart => exact ⟨0, 0, rfl, Nat.zero_le _, rfl⟩
  case round =>
    obtain ⟨i, q, rfl, hi, rfl⟩ := hrel
    by_cases hlt : i < l.length
    · obtain rfl := H1.out.1 (by rw [ints_len]; omega)
      obtain rfl := H2.out.1 (by rw [ints_len]; omega)
      have d1 := H1.out.2 i _ (ints_at hlt)
      have d2 := H2.out.2 i _ (ints_at hlt)
      generalize l[i] = x at d1 d2
      have i0 : (0 : Int) ≤ (i : Int) := by omega
      have i1 : (i : Int) < (l.length : Int) := by omega
      go_wp2
      go_quiet (fail)
      go_wp2
      go_roundw
      case rel => exact ⟨i + 1, _, by go_num, by omega, rfl⟩
      case measure => simp [intOf]; omega
    · go_wp2
      go_ret
      exact ⟨rfl, rfl, rfl, rfl, Nat.le_refl _, fun _ _ => rfl⟩

structure MarkedI (w wr : World) (g n i : Nat) : Prop where
  grown : w.grownBy wr (some g)
  done : ∀ j, j < i → wr.cell? ⟨g, j, none⟩ = some (.int .i64 ((1 + j : Nat) : Int))
  open_ : ∀ j, j < n → (∃ v, wr.cell? ⟨g, j, none⟩ = some v) ∧ wr.frozen? ⟨g, j, none⟩ = false
theorem MarkedI.step {w wr : World} {g n i : Nat} (h : MarkedI w wr g n i) (hi : i < n) : MarkedI w (wr.setCell ⟨g, i, none⟩ (.int .i64 ((1 + i : Nat) : Int))) g n (i + 1) := by
  obtain ⟨⟨v, hv⟩, hf⟩ := h.open_ i hi
  have other : ∀ j, j ≠ i → (wr.setCell ⟨g, i, none⟩ (.int .i64 ((1 + i : Nat) : Int))).cell? ⟨g, j, none⟩ = wr.cell? ⟨g, j, none⟩ := fun j hj =>
    World.cell?_setCell_other _ _ _ _ (by intro e; cases e; exact hj rfl)
  have same : (wr.setCell ⟨g, i, none⟩ (.int .i64 ((1 + i : Nat) : Int))).cell? ⟨g, i, none⟩ = some (.int .i64 ((1 + i : Nat) : Int)) :=
    World.cell?_setCell_same' _ _ _ (by rw [hv]; rfl)
  refine ⟨grown_trans_some h.grown (grown_set i _), fun j hj => ?_, fun j hj => ⟨?_, ?_⟩⟩
  · by_cases e : j = i
    · subst e; exact same
    · rw [other j e]; exact h.done j (by omega)
  · by_cases e : j = i
    · subst e; exact ⟨_, same⟩
    · rw [other j e]; exact (h.open_ j hj).1
  · rw [World.frozen?_setCell]; exact (h.open_ j hj).2

set_option maxHeartbeats 1000000 in
theorem markI_any (a : Option Addr) (g n c : Nat) (w : World) (ha : 0 < n → a = some ⟨g, 0, none⟩) (h2 : n ≤ 1048576) (ho : ∀ j, j < n → (∃ v, w.cell? ⟨g, j, none⟩ = some v) ∧ w.frozen? ⟨g, j, none⟩ = false) :
    Calls Try.prog 60 #[.slice a n c, .int .i64 1] w fun e w' => e = .returned (.int .i64 ((1 + n : Nat) : Int)) ∧ w.grownBy w' (some g) ∧ ∀ j, j < n → w'.cell? ⟨g, j, none⟩ = some (.int .i64 ((1 + j : Nat) : Int)) := by
  have HA := Lib.hid ha
  have HO : Hid (MarkedI w w g n 0) := Lib.hid ⟨⟨rfl, rfl, rfl, Nat.le_refl _, fun _ _ _ => rfl⟩, fun j hj => absurd hj (by omega), ho⟩
  clear ha ho
  go_enter Try.func60, Try.ntmps60
  go_wp2
  go_loopw [1, 5] (fun q v wr => ∃ (i : Nat), v = .int .i64 i ∧ i ≤ n ∧ q = .int .i64 ((1 + i : Nat) : Int) ∧ Hid (MarkedI w wr g n i)) (fun _ v _ => n - (intOf v).toNat)
  case atStart => exact ⟨0, rfl, Nat.zero_le _, rfl, HO⟩
  case round =>
    obtain ⟨i, rfl, hi, rfl, HM⟩ := hrel
    by_cases hlt : i < n
    · obtain rfl := HA.out (by omega)
      obtain ⟨⟨v, hv⟩, hf⟩ := HM.out.open_ i hlt
      have HN := Lib.hid (HM.out.step hlt)
      have i0 : (0 : Int) ≤ (i : Int) := by omega
      have i1 : (i : Int) < (n : Int) := by omega
      go_wp2
      go_roundw
      case rel => exact ⟨i + 1, by go_num, by omega, by congr 1, HN⟩
      case measure => simp [intOf]; omega
    · obtain rfl : i = n := by omega
      go_wp2
      go_ret
      exact ⟨rfl, HM.out.grown, HM.out.done⟩

set_option maxHeartbeats 1000000 in
theorem heldI_any (a : Option Addr) (g n c : Nat) (w : World) (ha : 0 < n → a = some ⟨g, 0, none⟩) (h2 : n ≤ 1048576) (ho : ∀ j, j < n → w.cell? ⟨g, j, none⟩ = some (.int .i64 ((1 + j : Nat) : Int))) :
    Calls Try.prog 61 #[.slice a n c, .int .i64 1] w fun e w' => e = .returned (.int .i64 ((1 + n : Nat) : Int)) ∧ Below w.heap.size w w' := by
  have HA := Lib.hid ha
  have HO := Lib.hid ho
  clear ha ho
  go_enter Try.func61, Try.ntmps61
  go_wp2
  go_loopw [1, 5] (fun q v wr => ∃ (i : Nat), v = .int .i64 i ∧ i ≤ n ∧ q = .int .i64 ((1 + i : Nat) : Int) ∧ wr = w) (fun _ v _ => n - (intOf v).toNat)
  case atStart => exact ⟨0, rfl, Nat.zero_le _, rfl, rfl⟩
  case round =>
    obtain ⟨i, rfl, hi, rfl, hwr⟩ := hrel
    subst hwr
    by_cases hlt : i < n
    · obtain rfl := HA.out (by omega)
      have d1 := HO.out i hlt
      have i0 : (0 : Int) ≤ (i : Int) := by omega
      have i1 : (i : Int) < (n : Int) := by omega
      go_wp2
      go_roundw
      case rel => exact ⟨i + 1, by go_num, by omega, by congr 1, trivial⟩
      case measure => simp [intOf]; omega
    · obtain rfl : i = n := by omega
      go_wp2
      go_ret
      exact ⟨rfl, Below.refl _ _⟩
theorem marksI_below {W W' : World} {q n : Nat} (h : ∀ j, j < n → W.cell? ⟨q, j, none⟩ = some (.int .i64 ((1 + j : Nat) : Int))) (hb : Below W.heap.size W W') : ∀ j, j < n → W'.cell? ⟨q, j, none⟩ = some (.int .i64 ((1 + j : Nat) : Int)) := fun j hj =>
  (hb.cell (p := ⟨q, j, none⟩) (World.block_lt_of_cell? _ _ (h j hj))).trans (h j hj)
end Go.Proofs.Ytekgmdigchobbaa
