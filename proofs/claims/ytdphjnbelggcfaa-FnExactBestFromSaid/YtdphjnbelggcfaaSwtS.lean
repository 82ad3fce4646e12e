/-
  The model's l2Own; a row of texts of the call's own, whatever lies behind it; SwapsToBest of the model: both answer alike. Used by the claims on chapter 8.
-/
import Derived.Test.YtdphjnbelggcfaaSwtW
import Derived.Laws.OwnMore
import Derived.Deep.AppendLies
namespace Go.Proofs.Ytdphjnbelggcfaa
open Go.RowKit
set_option linter.unusedVariables false

theorem ownS_any (b o c : Nat) (xs : List ByteArray) (w : World) (hl : xs.length ≤ 1000) (hc : ∀ (j : Nat) x, xs[j]? = some x → w.cell? ⟨b, o + j, none⟩ = some (.string x)) :
    Calls Try.prog 131 #[.slice (some ⟨b, o, none⟩) xs.length c] w fun e w' => ∃ v', e = .returned v' ∧ w'.ownsRow w.heap.size 9 1 v' xs.length ((xs.take xs.length).map Value.string) ∧ True ∧ Below w.heap.size w w' := by
  obtain ⟨i0, hi, hz0, hz1, hz2⟩ := info_parts infoStr
  have hm0 : (w.alloc (Obj.cells #[] 9)).ownsRow w.heap.size 9 1 (.slice (some ⟨w.heap.size, 0, none⟩) 0 0) 0 [] := World.ownsRow_made w #[] 0 (Nat.le_refl _) (by unfold maxLen; omega) rfl
  have hcc : ∀ j u, (xs.map Value.string)[j]? = some u → (w.alloc (Obj.cells #[] 9)).cell? ((⟨b, o, none⟩ : Addr).add j) = some u := fun j u hu => by
    rw [List.getElem?_map] at hu
    cases hx : xs[j]? with
    | none => rw [hx] at hu; cases hu
    | some x =>
      rw [hx] at hu
      cases hu
      rw [Addr.add_lit]
      exact keep_cell w _ (hc j x hx)
  have HO := Lib.hid hm0
  have HC := Lib.hid hcc
  clear hm0 hcc hc
  go_enter Try.func131, Try.ntmps131
  go_wp2_with (at_builtin; refine wpList_append_own _ rfl _ _ 28 rfl w.heap.size 9 i0 (.string ByteArray.empty) 1 16 Try.underlying28 hi hz0 hz1 hz2 rfl (by decide) _ _ _ rfl HO.out ⟨b, o, none⟩ xs.length c (xs.map Value.string) rfl (by simp) HC.out (by intro x hx; obtain ⟨y, _, rfl⟩ := List.mem_map.1 hx; rfl) (by unfold maxLen; omega) (by omega) (by simp) ?_; intro v' w1 hown' hgrow _)
  have HW : Hid (w1.ownsRow w.heap.size 9 1 v' xs.length ((xs.take xs.length).map Value.string)) := Lib.hid (by rw [List.take_length]; simpa using hown')
  have HB := Lib.hid ((below_alloc w (.cells #[] 9)).grown hgrow (by simp) (fun j e => (HO.out.lt j e).1))
  clear hown' hgrow
  go_ret
  exact ⟨v', rfl, HW.out, trivial, HB.out⟩

theorem rowS_src {w : World} {base : Nat} {v : Value} {ys : List ByteArray} (h : w.ownsRow base 9 1 v ys.length (ys.map Value.string)) (h0 : 0 < ys.length) : ∃ g cap, v = .slice (some ⟨g, 0, none⟩) ys.length cap ∧ base ≤ g ∧ g < w.heap.size ∧ Src w (some ⟨g, 0, none⟩) g 0 ys ∧ Open w g ys.length := by
  have h' := h
  rcases h.2 with ⟨_, h1⟩ | ⟨g, cap, cur, rfl, hg, hh, _⟩
  · omega
  · refine ⟨g, cap, rfl, hg, (Array.getElem?_eq_some_iff.1 hh).1, ⟨fun _ => rfl, fun j x hx => ?_⟩, fun j _ => by simp [World.frozen?, hh]⟩
    have := h'.cells (g := g) rfl j (.string x) (by simp [hx])
    rw [Addr.add_lit] at this
    exact this

/-- A row of texts: its cells, open. -/
structure RowO (wr : World) (B : Nat) (ys : List ByteArray) : Prop where
  cell : ∀ k, k < ys.length → wr.cell? ⟨B, k, none⟩ = some (.string (ys.getD k ⟨#[]⟩))
  opn : ∀ k, k < ys.length → wr.frozen? ⟨B, k, none⟩ = false
  lt : B < wr.heap.size
theorem RowO.src {wr : World} {B : Nat} {ys : List ByteArray} (h : RowO wr B ys) : Src wr (some ⟨B, 0, none⟩) B 0 ys :=
  ⟨fun _ => rfl, fun j x hx => by
    have hj : j < ys.length := (List.getElem?_eq_some_iff.1 hx).1
    have := h.cell j hj
    rw [List.getD_eq_getElem?_getD, hx] at this
    rw [Nat.zero_add]; exact this⟩
theorem RowO.below {w w' : World} {B : Nat} {ys : List ByteArray} (h : RowO w B ys) (hb : Below w.heap.size w w') : RowO w' B ys :=
  ⟨fun k hk => (hb.cell (p := ⟨B, k, none⟩) h.lt).trans (h.cell k hk), fun k hk => (hb.frozen (p := ⟨B, k, none⟩) h.lt).trans (h.opn k hk), Nat.lt_of_lt_of_le h.lt hb.size⟩
theorem RowO.sw {wr : World} {B i j : Nat} {ys : List ByteArray} (h : RowO wr B ys) (hi : i < ys.length) (hj : j < ys.length) :
    RowO ((wr.setCell ⟨B, i, none⟩ (.string (ys.getD j ⟨#[]⟩))).setCell ⟨B, j, none⟩ (.string (ys.getD i ⟨#[]⟩))) B (sw2 ys i j) := by
  have c1 : ∀ k, k < ys.length → (wr.setCell ⟨B, i, none⟩ (.string (ys.getD j ⟨#[]⟩))).cell? ⟨B, k, none⟩ = some (.string (if k = i then ys.getD j ⟨#[]⟩ else ys.getD k ⟨#[]⟩)) := fun k hk => by
    by_cases e : k = i
    · subst e
      rw [World.cell?_setCell_same' _ _ _ (by rw [h.cell k hk]; rfl), if_pos rfl]
    · rw [World.cell?_setCell_other _ _ _ _ (by intro e2; cases e2; exact e rfl), if_neg e]; exact h.cell k hk
  refine ⟨fun k hk => ?_, fun k hk => ?_, by simpa [World.setCell] using h.lt⟩
  · rw [sw2_len] at hk
    rw [sw2_at hi hj hk]
    by_cases e : k = j
    · subst e
      rw [World.cell?_setCell_same' _ _ _ (by rw [c1 k hk]; rfl), if_pos rfl]
    · rw [World.cell?_setCell_other _ _ _ _ (by intro e2; cases e2; exact e rfl), if_neg e]; exact c1 k hk
  · rw [sw2_len] at hk
    rw [World.frozen?_setCell, World.frozen?_setCell]
    exact h.opn k hk
theorem rowO_of_row {w : World} {base B cap : Nat} {n : Nat} {ys : List ByteArray} (h : w.ownsRow base 9 1 (.slice (some ⟨B, 0, none⟩) n cap) n (ys.map Value.string)) : RowO w B ys ∧ base ≤ B := by
  obtain ⟨g, c', e, hs, hb, hf, _⟩ := seq_of_row2 h (by intro e; cases e)
  cases e
  refine ⟨⟨fun k hk => ?_, fun k hk => hf k (by simpa using hk), ?_⟩, hb⟩
  · exact hs.2 k _ (by rw [List.getElem?_map, List.getElem?_eq_getElem hk, List.getD_eq_getElem?_getD, List.getElem?_eq_getElem hk]; rfl)
  · exact (h.lt B rfl).2
structure SwJo (w wr : World) (B : Nat) (n : Nat) (m : List Nat) (k f R : Nat) (ys : List ByteArray) : Prop where
  row : RowO wr B ys
  len : ys.length = n
  below : Below w.heap.size w wr
  mks : ∀ y ∈ ys, marksL (bl y) = true
  cost : cst (uAt m) (tAt ys) ys.length ≤ f
  cnt : k + swF (uAt m) f ys = R

/-! ### Whatever comes in -/
def swtOk (xs : List ByteArray) (l : List Int) : Bool := fitB xs l
def swtR (xs : List ByteArray) (l : List Int) : Nat := if fitB xs l = true then swF (uAt (l.map Int.toNat)) (cst (uAt (l.map Int.toNat)) (tAt xs) xs.length) xs else 0
end Go.Proofs.Ytdphjnbelggcfaa
