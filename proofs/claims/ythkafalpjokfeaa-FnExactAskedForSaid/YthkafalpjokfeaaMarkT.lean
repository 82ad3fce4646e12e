/-
  Contracts of the laws' own markTable, heldTable; how a function ends that answers with a Table. Used by the claims on chapter 2.
-/
import Derived.Test.YthkafalpjokfeaaLawW
import Derived.Test.YthkafalpjokfeaaMarkW
namespace Go.Proofs.Ythkafalpjokfeaa
open Go.RowKit
set_option linter.unusedVariables false

theorem markT_any (a : Option Addr) (g n c : Nat) (w : World) (ha : 0 < n → a = some ⟨g, 0, none⟩) (h2 : n ≤ 1048576) (ho : ∀ j, j < n → (∃ v, w.cell? ⟨g, j, none⟩ = some v) ∧ w.frozen? ⟨g, j, none⟩ = false) :
    Calls Try.prog 26 #[.agg #[.slice a n c], .int .i64 1] w fun e w' => e = .returned (.int .i64 ((1 + n : Nat) : Int)) ∧ w.grownBy w' (some g) ∧ ∀ j, j < n → w'.cell? ⟨g, j, none⟩ = some (.string (mark (1 + j))) := by
  have F := Lib.hid fun ob => mark_any a g n c 1 (w.alloc ob) ha (Nat.le_refl _) (by omega) (fun j hj => by
    obtain ⟨⟨v, hv⟩, hf⟩ := ho j hj
    exact ⟨⟨v, keep_cell w ob hv⟩, keep_frozen w ob (World.block_lt_of_cell? _ _ hv) hf⟩)
  clear ha ho
  go_enter Try.func26, Try.ntmps26
  go_wp2_with fail
  refine (F.out _).mono ?_
  rintro e w' ⟨rfl, hM⟩
  have HM := Lib.hid hM
  clear hM
  go_wp2
  go_ret
  exact ⟨rfl, grown_trans_some (grown_of_below (below_alloc w _)) HM.out.grown, HM.out.done⟩

/-- How a function ends that answers with a Table and a bool: a list of its own, or none. -/
def TabOut (ys : List ByteArray) (ok : Bool) (W : World) (e : Ending) (W' : World) : Prop :=
  ∃ a g c, e = .returned (.tuple #[.agg #[.slice a ys.length c], .bool ok]) ∧ Src W' a g 0 ys ∧ (0 < ys.length → W.heap.size ≤ g) ∧ (∀ j, j < ys.length → W'.frozen? ⟨g, j, none⟩ = false) ∧ Below W.heap.size W W'
theorem tabOut_none {W W' : World} (hb : Below W.heap.size W W') : TabOut [] false W (.returned (.tuple #[.agg #[.slice none 0 0], .bool false])) W' :=
  ⟨none, W.heap.size, 0, rfl, ⟨fun h => by simp at h, fun j x hx => by simp at hx⟩, fun h => by simp at h, fun j hj => by simp at hj, hb⟩

/-! ### What a walk carries of a list: it may turn elsewhere -/
theorem Src.grown {w w' : World} {a : Option Addr} {b o q : Nat} {xs : List ByteArray} (h : Src w a b o xs) (hg : w.grownBy w' (some q)) (hne : 0 < xs.length → b ≠ q) : Src w' a b o xs :=
  ⟨h.1, fun j x hx => (World.cell?_of_block (w := w) (a := ⟨b, o + j, none⟩) (hg.block b (World.block_lt_of_cell? _ _ (h.2 j x hx)) (fun e => hne (Nat.lt_of_le_of_lt (Nat.zero_le _) (List.getElem?_eq_some_iff.1 hx).1) (by injection e)))).trans (h.2 j x hx)⟩
theorem Carry.grown {w W W' : World} {a : Option Addr} {n c q : Nat} (h : Carry w a n c W) (hg : W.grownBy W' (some q)) (hq : w.heap.size < q) : Carry w a n c W' := by
  refine ⟨h.below.grown hg (Nat.le_of_lt h.lt) (fun k e => by cases e; omega), ?_, Nat.lt_of_lt_of_le h.lt hg.size⟩
  exact (World.cell?_of_block (w := W) (a := ⟨w.heap.size, 0, none⟩) (hg.block w.heap.size h.lt (fun e => by injection e with e; omega))).trans h.box
/-- No cell is there to turn: nothing turns. -/
theorem grown_below {w W W' : World} {q : Nat} (hb : Below w.heap.size w W) (hg : W.grownBy W' (some q)) (hq : w.heap.size ≤ q) : Below w.heap.size w W' := hb.grown hg hb.size (fun k e => by cases e; omega)

theorem toT_cells {w : World} {g : Nat} {xs : List ByteArray} (h : Holds w g xs) : ∀ j, j < xs.length → ∃ v, w.cell? ⟨g, j, none⟩ = some v := fun j hj => ⟨_, h j _ (List.getElem?_eq_getElem hj)⟩
/-- Marks stand through whatever is laid behind them. -/
theorem marks_below {W W' : World} {q n : Nat} (h : ∀ j, j < n → W.cell? ⟨q, j, none⟩ = some (.string (mark (1 + j)))) (hb : Below W.heap.size W W') : ∀ j, j < n → W'.cell? ⟨q, j, none⟩ = some (.string (mark (1 + j))) := fun j hj =>
  (hb.cell (p := ⟨q, j, none⟩) (World.block_lt_of_cell? _ _ (h j hj))).trans (h j hj)
/-- The block in which a list is marked: its own, or none that is there. -/
theorem mark_block {W : World} {a : Option Addr} {q m : Nat} {ys : List ByteArray} {l : List (Nat × Value)} (hs : Src W a q 0 ys) (ho : Open W q ys.length) (hb : Bx W l) (hm : m < W.heap.size) (hq : 0 < ys.length → m < q ∧ ∀ p ∈ l, p.1 ≠ q) :
    ∃ k, Src W a k 0 ys ∧ Open W k ys.length ∧ m < k ∧ (∀ p ∈ l, p.1 ≠ k) ∧ (0 < ys.length → k = q) := by
  by_cases h0 : 0 < ys.length
  · exact ⟨q, hs, ho, (hq h0).1, (hq h0).2, fun _ => rfl⟩
  · have hnil : ys = [] := List.length_eq_zero_iff.1 (by omega)
    subst hnil
    exact ⟨W.heap.size, ⟨fun h => by simp at h, fun j x hx => by simp at hx⟩, fun j hj => by simp at hj, hm, fun p hp e => by have := hb.lt p hp; omega, fun h => by simp at h⟩
/-- toTable anew at a drawn world. -/
theorem toT_drew {w W : World} {a : Option Addr} {b o c X : Nat} {u : Value} {xs : List ByteArray} (hc : Carry w a xs.length c W) (hli : ∀ W, Below w.heap.size w W → ListIn W a b o xs) (hx : W.cell? ⟨X, 0, none⟩ = some u) :
    Calls Try.prog 19 #[.agg #[.slice a xs.length c]] W.drew fun e w' => ∃ g6 c6, e = .returned (.agg #[.slice (some ⟨g6, 0, none⟩) xs.length c6]) ∧ w'.cell? ⟨X, 0, none⟩ = some u ∧ Hid (Src w' (some ⟨g6, 0, none⟩) g6 0 xs ∧ Below W.heap.size W w') := by
  have hcd : Carry w a xs.length c W.drew := ⟨hc.below.drew, hc.box, hc.lt⟩
  have hxd : W.drew.cell? ⟨X, 0, none⟩ = some u := hx
  refine (toT_any a b o c xs W.drew (hli _ hcd.below).src (hli _ hcd.below).len).mono ?_
  rintro e w' ⟨v, rfl, ⟨g6, c6, rfl, _, _, _, hh, _⟩, hb⟩
  exact ⟨g6, c6, rfl, (hb.cell (p := ⟨X, 0, none⟩) (World.block_lt_of_cell? _ _ hxd)).trans hxd, src_of_holds hh, (Below.refl W.heap.size W).drew.trans hb⟩
end Go.Proofs.Ythkafalpjokfeaa
