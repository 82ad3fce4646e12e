/-
  Contracts of the model's one, of, any1: what is drawn lies among what is offered. Used by the claims on the named laws.
-/
import Derived.Test.YtppiocjmhlgjoaaDoorCurW
namespace Go.Proofs.YtppiocjmhlgjoaaDoor
open Go.RowKit
set_option linter.unusedVariables false

def DrawnB (cb m d : Nat) (w : World) (e : Ending) (w' : World) : Prop := ∃ b : Bool, e = .returned (.bool b) ∧ Cur w' cb (m + d) ∧ w.grownBy w' (some cb)
theorem one_any (cb m n : Nat) (w : World) (h : Cur w cb m) (hm : m ≤ 900000000) (h1 : 1 ≤ n) (hn : n ≤ 1000000) : Calls Tryd.prog 26 #[.pointer (some ⟨cb, 0, none⟩), .int .i64 n] w (DrawnB cb m 2 w) := by
  have HC := Lib.hid h
  clear h
  go_enter Tryd.func26, Tryd.ntmps26
  go_wp2_with fail
  refine (pick_any cb m n _ HC.out hm h1 hn).mono ?_
  rintro e w1 ⟨v, rfl, hv, hc, hg⟩
  have HF : Hid (Cur w1 cb (m + 2) ∧ w.grownBy w1 (some cb)) := ⟨hc, hg⟩
  clear hc hg
  go_wp2
  go_ret
  exact ⟨_, rfl, HF.out.1, HF.out.2⟩

/-- A list of texts in a block. -/
def ListAt (W : World) (g : Nat) (xs : List ByteArray) : Prop := ∀ (j : Nat) x, xs[j]? = some x → W.cell? ⟨g, j, none⟩ = some (.string x)
theorem ListAt.grown {w w' : World} {g cb : Nat} {xs : List ByteArray} (h : ListAt w g xs) (hg : w.grownBy w' (some cb)) (hne : g ≠ cb) : ListAt w' g xs := fun j x hx =>
  (World.cell?_of_block (w := w) (a := ⟨g, j, none⟩) (hg.block g (World.block_lt_of_cell? _ _ (h j x hx)) (fun e => hne (by injection e)))).trans (h j x hx)

def DrawnT (cb m d : Nat) (xs : List ByteArray) (w : World) (e : Ending) (w' : World) : Prop := ∃ x, e = .returned (.string x) ∧ x ∈ xs ∧ Cur w' cb (m + d) ∧ w.grownBy w' (some cb)
theorem of_any (cb m g c n : Nat) (xs : List ByteArray) (w : World) (h : Cur w cb m) (hm : m ≤ 900000000) (hx : ListAt w g xs) (hne : g ≠ cb) (hn : xs.length = n) (h1 : 1 ≤ n) (h2 : n ≤ 1000000) :
    Calls Tryd.prog 27 #[.pointer (some ⟨cb, 0, none⟩), .slice (some ⟨g, 0, none⟩) n c] w (DrawnT cb m 2 xs w) := by
  have HC := Lib.hid h
  have HX := Lib.hid hx
  have HN := Lib.hid hn
  clear h hx hn
  go_enter Tryd.func27, Tryd.ntmps27
  go_wp2_with fail
  refine (pick_any cb m n _ HC.out hm h1 h2).mono ?_
  rintro e w1 ⟨v, rfl, hv, hc, hg⟩
  have hvl : v < xs.length := by have := HN.out; omega
  have hcell := HX.out.grown hg hne v _ (List.getElem?_eq_getElem hvl)
  have HF : Hid (xs[v] ∈ xs ∧ Cur w1 cb (m + 2) ∧ w.grownBy w1 (some cb)) := ⟨List.getElem_mem hvl, hc, hg⟩
  generalize xs[v] = x at hcell HF
  clear hc hg hvl
  have i0 : (0 : Int) ≤ (v : Int) := by omega
  have i1 : (v : Int) < (n : Int) := by omega
  go_wp2
  go_ret
  exact ⟨x, rfl, HF.out.1, HF.out.2.1, HF.out.2.2⟩

theorem listAt_new (w : World) (xs : List ByteArray) (t : TypeId) : ListAt (w.alloc (.cells (xs.map Value.string).toArray t)) w.heap.size xs := fun j x hx => by
  rw [World.cell?_alloc_new]
  simp [hx]
theorem grown_alloc (w : World) (o : Obj) (cb : Nat) : w.grownBy (w.alloc o) (some cb) := ⟨rfl, rfl, rfl, by simp, fun i hi _ => Below.heap_alloc w o i hi⟩

def DrawnS (cb m d k : Nat) (w : World) (e : Ending) (w' : World) : Prop := ∃ x : ByteArray, e = .returned (.string x) ∧ x.size ≤ k ∧ Cur w' cb (m + d) ∧ w.grownBy w' (some cb)
/-- The texts that any1 offers. -/
def anyTexts : List ByteArray := [⟨#[]⟩, ⟨#[97]⟩, ⟨#[97, 44, 98]⟩, ⟨#[115, 111, 109, 101, 32, 119, 111, 114, 100, 115]⟩, ⟨#[120, 35, 121]⟩, ⟨#[45, 49, 50]⟩, ⟨#[0, 255]⟩, ⟨#[44, 44]⟩, ⟨#[48]⟩]
theorem anyTexts_size : ∀ x ∈ anyTexts, x.size ≤ 10 := by decide
theorem any1_any (cb m : Nat) (w : World) (h : Cur w cb m) (hm : m ≤ 900000000) : Calls Tryd.prog 30 #[.pointer (some ⟨cb, 0, none⟩)] w (DrawnS cb m 2 10 w) := by
  have HC := Lib.hid h
  have HC2 := Lib.hid (fun o => h.keep ((Below.refl w.heap.size w).alloc (Nat.le_refl _) o) h.lt)
  have HL := Lib.hid (listAt_new w anyTexts 9)
  have HNe : Hid (w.heap.size ≠ cb) := Lib.hid (by have := h.lt; omega)
  clear h
  go_enter Tryd.func30, Tryd.ntmps30
  go_wp2_with fail
  refine (of_any cb m w.heap.size 9 9 anyTexts _ (HC2.out _) hm HL.out HNe.out rfl (by omega) (by omega)).mono ?_
  rintro e w1 ⟨x, rfl, hx, hc, hg⟩
  have HF : Hid (x.size ≤ 10 ∧ Cur w1 cb (m + 2) ∧ w.grownBy w1 (some cb)) := ⟨anyTexts_size x hx, hc, grown_two (grown_alloc w _ cb) hg⟩
  clear hx hc hg
  go_wp2
  go_ret
  exact ⟨x, rfl, HF.out.1, HF.out.2.1, HF.out.2.2⟩

/-- .. out of a list that has just been laid. -/
theorem of_new (cb m n : Nat) (xs : List ByteArray) (w : World) (h : Cur w cb m) (hm : m ≤ 900000000) (hn : xs.length = n) (h1 : 1 ≤ n) (h2 : n ≤ 1000000) :
    Calls Tryd.prog 27 #[.pointer (some ⟨cb, 0, none⟩), .slice (some ⟨w.heap.size, 0, none⟩) n n] (w.alloc (.cells (xs.map Value.string).toArray 9)) (DrawnT cb m 2 xs w) := by
  have hne : w.heap.size ≠ cb := by have := h.lt; omega
  refine (of_any cb m w.heap.size n n xs _ (h.keep ((Below.refl w.heap.size w).alloc (Nat.le_refl _) _) h.lt) hm (listAt_new w xs 9) hne hn h1 h2).mono ?_
  rintro e w1 ⟨x, rfl, hx, hc, hg⟩
  exact ⟨x, rfl, hx, hc, grown_two (grown_alloc w _ cb) hg⟩
end Go.Proofs.YtppiocjmhlgjoaaDoor
