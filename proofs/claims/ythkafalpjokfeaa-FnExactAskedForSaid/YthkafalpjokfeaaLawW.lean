/-
  How a Table that came in is opened; what a walk is told of it. Used by the claims on chapter 2.
-/
import Derived.Test.YthkafalpjokfeaaTableL
import Derived.ChangeSame
import Derived.SliceStrings
import Derived.ChangeAt
import Derived.OpenShut
import Derived.ShutString
namespace Go.Proofs.Ythkafalpjokfeaa
open Go.RowKit Go.ChangeShapes
set_option linter.unusedVariables false

/-- What the walk is told of a slice of texts that came in: nil, or a row of cap cells. -/
def IsTexts (w : World) (a : Option Addr) (len cap : Nat) (ss : List ByteArray) : Prop :=
  (a = none ∧ len = 0 ∧ cap = 0 ∧ ss = []) ∨
  ∃ x, a = some x ∧ len ≤ cap ∧ cap ≤ maxLen ∧ ss.length = cap ∧ (∀ i, i < ss.length → w.cell? (x.add i) = some (.string (ss.getD i ByteArray.empty))) ∧ ∀ s ∈ ss, s.size ≤ maxLen
theorem isTexts_src {w : World} {a : Option Addr} {len cap : Nat} {ss : List ByteArray} (h : IsTexts w a len cap ss) : ∃ xs b o, len = xs.length ∧ Src w a b o xs ∧ (∀ x ∈ xs, x.size ≤ maxLen) ∧ xs.length ≤ maxLen := by
  rcases h with ⟨rfl, rfl, rfl, rfl⟩ | ⟨x, rfl, hlc, hcm, hz, hcell, hsz⟩
  · exact ⟨[], 0, 0, rfl, ⟨fun h => by simp at h, fun j x hx => by simp at hx⟩, fun x hx => by simp at hx, by simp⟩
  · have hlen : (ss.take len).length = len := by rw [List.length_take]; omega
    obtain ⟨b, off, spot⟩ := x
    refine ⟨ss.take len, b, off, hlen.symm, ⟨fun h0 => ?_, fun j x hx => ?_⟩, fun x hx => hsz x (List.mem_of_mem_take hx), by omega⟩
    · have hc := hcell 0 (by omega)
      have hspot : spot = none := by simpa [Addr.add] using World.cell?_spot hc
      rw [hspot]
    · have hj : j < (ss.take len).length := (List.getElem?_eq_some_iff.1 hx).1
      have hc := hcell j (by omega)
      have hc0 := hcell 0 (by omega)
      have hspot : spot = none := by simpa [Addr.add] using World.cell?_spot hc0
      subst hspot
      rw [Addr.add_lit] at hc
      rw [hc]
      have h2 : ss[j]? = some x := by
        rw [List.getElem?_take_of_lt (by omega)] at hx; exact hx
      rw [List.getD_eq_getElem?_getD, h2]; rfl

theorem src_cells {w : World} {a : Option Addr} {g : Nat} {xs : List ByteArray} (h : Src w a g 0 xs) (ho : Open w g xs.length) : ∀ j, j < xs.length → (∃ v, w.cell? ⟨g, j, none⟩ = some v) ∧ w.frozen? ⟨g, j, none⟩ = false := fun j hj =>
  ⟨⟨_, by have := h.2 j _ (List.getElem?_eq_getElem hj); rwa [Nat.zero_add] at this⟩, ho j hj⟩

set_option maxRecDepth 100000 in
theorem open_tab {H : Type} {enc : TypeId × Value → H} {W : World} {t : TypeId} {cs : Array Value} {d : DataW H} {p : List MemPlace} {f0 : Field} (ht : Try.prog.underlying t = some (.struct #[f0])) (hty : f0.type = 22) (hof : f0.offset = 0) (hc : Try.prog.cellsOf t = 1)
    (h : DataW.Trod enc Try.prog W 0 (fun _ => true) true t (.agg cs) d p) : ∃ a len cap zs, cs = #[.slice a len cap] ∧ IsTexts W a len cap zs := by
  obtain ⟨fuel, hf⟩ := h
  obtain ⟨y0, n, _, hlen, hf0⟩ := trod_struct1 ht hf
  have hcells : (Value.agg cs).cells.toList = cs.toList := by simp [Value.cells]
  rw [hcells] at hlen hf0
  rw [hty, hof] at hf0
  rw [hc] at hlen
  obtain ⟨v, hv⟩ : ∃ v, cs = #[v] := by
    obtain ⟨l⟩ := cs
    match l, hlen with
    | [v], _ => exact ⟨v, rfl⟩
  subst hv
  have hc1 : Try.prog.cellsOf 22 = 1 := by kernel_rfl
  rw [hc1] at hf0
  rcases open_strings Try.underlying22 Try.underlying9 (by kernel_rfl) hf0 with ⟨hcs, _⟩ | ⟨x, l, c, ss, hcs, _, hl, hm, hz, _, hcell, hws⟩
  · have h2 : [v] = [.slice none 0 0] := hcs
    obtain rfl := (List.cons.inj h2).1
    exact ⟨none, 0, 0, [], rfl, .inl ⟨rfl, rfl, rfl, rfl⟩⟩
  · have h2 : [v] = [.slice (some x) l c] := hcs
    obtain rfl := (List.cons.inj h2).1
    exact ⟨some x, l, c, ss, rfl, .inr ⟨x, rfl, hl, hm, by simpa using hz, hcell, hws⟩⟩

/-- What a law's walk carries from call to call: its Table's own block, and that nothing else has turned. -/
structure Carry (w : World) (a : Option Addr) (n c : Nat) (W : World) : Prop where
  below : Below w.heap.size w W
  box : W.cell? ⟨w.heap.size, 0, none⟩ = some (.slice a n c)
  lt : w.heap.size < W.heap.size
theorem Carry.new (w : World) (a : Option Addr) (n c : Nat) (t : TypeId) : Carry w a n c (w.alloc (.cells #[.slice a n c] t)) := ⟨below_alloc _ _, cell_new _ _ _, by simp⟩
theorem Carry.step {w W W' : World} {a : Option Addr} {n c : Nat} (h : Carry w a n c W) (hb : Below W.heap.size W W') : Carry w a n c W' :=
  ⟨h.below.trans (hb.mono (Nat.le_of_lt h.lt)), (hb.cell (p := ⟨w.heap.size, 0, none⟩) h.lt).trans h.box, Nat.lt_of_lt_of_le h.lt hb.size⟩
theorem listIn_of_holds {w : World} {g : Nat} {xs : List ByteArray} (h : Holds w g xs) (hl : xs.length ≤ 1048576) (ht : ∀ x ∈ xs, x.size ≤ 1048576) : ListIn w (some ⟨g, 0, none⟩) g 0 xs := ⟨src_of_holds h, hl, ht⟩

/-- toTable anew, ahead of a comparison: what is known of the world behind it. -/
theorem toT_again {w W : World} {a : Option Addr} {b o c g3 X : Nat} {u : Value} {xs : List ByteArray} (hc : Carry w a xs.length c W) (hli : ∀ W, Below w.heap.size w W → ListIn W a b o xs) (hs : Src W (some ⟨g3, 0, none⟩) g3 0 xs) (hx : W.cell? ⟨X, 0, none⟩ = some u) :
    Calls Try.prog 19 #[.agg #[.slice a xs.length c]] W.drew fun e w' => ∃ g6 c6, e = .returned (.agg #[.slice (some ⟨g6, 0, none⟩) xs.length c6]) ∧ w'.cell? ⟨X, 0, none⟩ = some u ∧ Hid (Src w' (some ⟨g3, 0, none⟩) g3 0 xs ∧ Src w' (some ⟨g6, 0, none⟩) g6 0 xs ∧ Carry w a xs.length c w') := by
  have hcd : Carry w a xs.length c W.drew := ⟨hc.below.drew, hc.box, hc.lt⟩
  have hsd : Src W.drew (some ⟨g3, 0, none⟩) g3 0 xs := hs
  have hxd : W.drew.cell? ⟨X, 0, none⟩ = some u := hx
  refine (toT_any a b o c xs W.drew (hli _ hcd.below).src (hli _ hcd.below).len).mono ?_
  rintro e w' ⟨v, rfl, ⟨g6, c6, rfl, _, _, _, hh, _⟩, hb⟩
  exact ⟨g6, c6, rfl, (hb.cell (p := ⟨X, 0, none⟩) (World.block_lt_of_cell? _ _ hxd)).trans hxd, hsd.below hb, src_of_holds hh, hcd.step hb⟩
end Go.Proofs.Ythkafalpjokfeaa
