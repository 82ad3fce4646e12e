/-
  Contracts of the laws' own szStringS, toStringS, eqStringS, markStringS, heldStringS and of their Table forms, at every list of texts in memory. Used by the claims on chapter 2.
-/
import Derived.Test.YtgfmcpipbmnagaaDoorSplitW
import Derived.Test.YtgfmcpipbmnagaaDoorGrow0
import Derived.Test.YtgfmcpipbmnagaaDoorMarkW
import Derived.Test.YtgfmcpipbmnagaaDoorRows
import Derived.WalkKit
import Derived.WalkSpells
import Derived.LoopTactic
import Derived.Handy
import Derived.Lib.Hide
import Derived.IntWalk
import Derived.Deep.QuietTactic
import Derived.BigQuiet
import Derived.Deep.OwnRows
import Derived.Laws.AppendOwn
import Derived.OwnWalk
import Derived.Maps.AppendAt
import Derived.Test.YtgfmcpipbmnagaaDoorTabT
import Derived.RangeFuncBox
import Derived.Laws.Rows
import Derived.Laws.ResultCell
namespace Go.Proofs.YtgfmcpipbmnagaaDoor
open Go.RowKit
set_option linter.unusedVariables false

/-- A list of texts in a block. -/
def Holds (W : World) (g : Nat) (xs : List ByteArray) : Prop := ∀ (j : Nat) x, xs[j]? = some x → W.cell? ⟨g, j, none⟩ = some (.string x)

/-- What a list of texts in memory is told by: where it lies, if it has an element. -/
def Src (w : World) (a : Option Addr) (b o : Nat) (xs : List ByteArray) : Prop := (0 < xs.length → a = some ⟨b, o, none⟩) ∧ ∀ (j : Nat) x, xs[j]? = some x → w.cell? ⟨b, o + j, none⟩ = some (.string x)
theorem Src.below {w w' : World} {a : Option Addr} {b o : Nat} {xs : List ByteArray} (h : Src w a b o xs) (hb : Below w.heap.size w w') : Src w' a b o xs :=
  ⟨h.1, fun j x hx => (hb.cell (p := ⟨b, o + j, none⟩) (World.block_lt_of_cell? _ _ (h.2 j x hx))).trans (h.2 j x hx)⟩

/-- Elements and bytes together. -/
def bulk (xs : List ByteArray) : Nat := (xs.map (·.size)).sum
theorem bulk_take_succ (xs : List ByteArray) (k : Nat) (x : ByteArray) (h : xs[k]? = some x) : bulk (xs.take (k + 1)) = bulk (xs.take k) + x.size := by
  rw [List.take_add_one, h]; simp [bulk]
theorem bulk_take_le (xs : List ByteArray) (k : Nat) : bulk (xs.take k) ≤ bulk xs := by
  induction xs generalizing k with
  | nil => simp [bulk]
  | cons y r ih =>
    cases k with
    | zero => simp [bulk]
    | succ k =>
      have := ih k
      simp only [bulk, List.take_succ_cons, List.map_cons, List.sum_cons] at this ⊢
      omega
theorem size_le_bulk (xs : List ByteArray) (k : Nat) (x : ByteArray) (h : xs[k]? = some x) : x.size ≤ bulk xs := by
  have h1 := bulk_take_succ xs k x h
  have h2 := bulk_take_le xs (k + 1)
  omega

/-- A number that is not negative; the world as it was. -/
def SomeNat (w : World) (e : Ending) (w' : World) : Prop := ∃ k : Nat, e = .returned (.int .i64 k) ∧ w' = w

theorem src_lt {w : World} {a : Option Addr} {b o : Nat} {xs : List ByteArray} (h : Src w a b o xs) (h0 : 0 < xs.length) : b < w.heap.size :=
  World.block_lt_of_cell? w ⟨b, o + 0, none⟩ (h.2 0 _ (List.getElem?_eq_getElem h0))
theorem src_of_holds {w : World} {g : Nat} {xs : List ByteArray} (h : Holds w g xs) : Src w (some ⟨g, 0, none⟩) g 0 xs := ⟨fun _ => rfl, fun j x hx => by rw [Nat.zero_add]; exact h j x hx⟩
theorem Src.drewN {w : World} {a : Option Addr} {b o : Nat} {xs : List ByteArray} (h : Src w a b o xs) (q : Nat) : Src (w.drewN q) a b o xs := h

theorem eqS_yes (a1 a2 : Option Addr) (b1 o1 c1 b2 o2 c2 : Nat) (xs : List ByteArray) (w : World) (hl : xs.length ≤ 1048576) (h1 : Src w a1 b1 o1 xs) (h2 : Src w a2 b2 o2 xs) :
    Calls Tryd.prog 17 #[.slice a1 xs.length c1, .slice a2 xs.length c2] w fun e w' => e = .returned (.bool true) ∧ ∃ k, w' = w.drewN k := by
  have H1 := Lib.hid h1
  have H2 := Lib.hid h2
  clear h1 h2
  go_enter Tryd.func17, Tryd.ntmps17
  go_wp2
  go_loopw [5] (fun v wr => ∃ (i q : Nat), v = .int .i64 i ∧ i ≤ xs.length ∧ wr = w.drewN q) (fun v _ => xs.length - (intOf v).toNat)
  case atStart => exact ⟨0, 0, rfl, Nat.zero_le _, rfl⟩
  case round =>
    obtain ⟨i, q, rfl, hi, rfl⟩ := hrel
    by_cases hlt : i < xs.length
    · obtain rfl := H1.out.1 (by omega)
      obtain rfl := H2.out.1 (by omega)
      have d1 := H1.out.2 i _ (List.getElem?_eq_getElem hlt)
      have d2 := H2.out.2 i _ (List.getElem?_eq_getElem hlt)
      generalize xs[i] = x at d1 d2
      have i0 : (0 : Int) ≤ (i : Int) := by omega
      have i1 : (i : Int) < (xs.length : Int) := by omega
      go_wp2
      go_quiet (fail)
      go_wp2
      go_roundw
      case rel => exact ⟨i + 1, _, by go_num, by omega, rfl⟩
      case measure => simp [intOf]; omega
    · go_wp2
      go_ret
      exact ⟨rfl, q, rfl⟩

/-! ### Tables -/
theorem tab_size : (Tryd.prog.info? 75).map (·.size) = some 1 := by kernel_rfl
theorem load_tab {w : World} {g : Nat} {v : Value} (h : Boxed w g 75 v) : (loadVar 75 ⟨g, 0, none⟩).run Tryd.prog w = .ok (.agg #[v]) w := 
  run_loadVar_row w g 75 75 #[v] (0, 0) _ h Tryd.underlying75 rfl tab_size
theorem res_tab {fn : Func} {p : Tmp} (h : fn.results = #[.cell p 75]) (tmps : Array Value) {w : World} {g : Nat} {v : Value} (hp : tmps.getD p undef = .pointer (some ⟨g, 0, none⟩)) (hb : Boxed w g 75 v) : (results fn tmps).run Tryd.prog w = .ok (.agg #[v]) w := by
  have hp' : tmps[p]?.getD undef = .pointer (some ⟨g, 0, none⟩) := by simpa using hp
  simp [results, h, hp', asAddr, load_tab hb]
theorem res_tab2 {fn : Func} {p u : Tmp} (h : fn.results = #[.cell p 75, .tmp u]) (tmps : Array Value) {w : World} {g : Nat} {v : Value} (hp : tmps.getD p undef = .pointer (some ⟨g, 0, none⟩)) (hb : Boxed w g 75 v) : (results fn tmps).run Tryd.prog w = .ok (.tuple #[.agg #[v], tmps.getD u undef]) w := by
  rw [results_cell_tmp h, hp]
  simp [asAddr, load_tab hb, Result.andThen]
theorem res_tab3 {fn : Func} {p u q : Tmp} (h : fn.results = #[.cell p 75, .tmp u, .tmp q]) (tmps : Array Value) {w : World} {g : Nat} {v : Value} (hp : tmps.getD p undef = .pointer (some ⟨g, 0, none⟩)) (hb : Boxed w g 75 v) : (results fn tmps).run Tryd.prog w = .ok (.tuple #[.agg #[v], tmps.getD u undef, tmps.getD q undef]) w := by
  have hp' : tmps[p]?.getD undef = .pointer (some ⟨g, 0, none⟩) := by simpa using hp
  simp [results, h, hp', asAddr, load_tab hb, Result.andThen]
theorem boxed_below {w w' : World} {B g : Nat} {t : TypeId} {v : Value} (h : Boxed w g t v) (hb : Below B w w') (hg : g < B) : Boxed w' g t v := (hb.block g hg).trans h
theorem boxed_set {w : World} {g g2 o2 : Nat} {t : TypeId} {v u : Value} (h : Boxed w g t v) (hne : g ≠ g2) : Boxed (w.setCell ⟨g2, o2, none⟩ u) g t v := by
  unfold Boxed at h ⊢
  simp [World.setCell, Array.getElem?_modify, Ne.symm hne, h]
theorem Src.alloc {w : World} {a : Option Addr} {b o : Nat} {xs : List ByteArray} (h : Src w a b o xs) (ob : Obj) : Src (w.alloc ob) a b o xs := h.below (below_alloc w ob)
/-- A table of its own: where it lies. -/
def NewTab (xs : List ByteArray) (w : World) (v : Value) (w' : World) : Prop := ∃ g c, v = .agg #[.slice (some ⟨g, 0, none⟩) xs.length c] ∧ xs.length ≤ c ∧ w.heap.size ≤ g ∧ g < w'.heap.size ∧ Holds w' g xs ∧ (∀ j, j < xs.length → w'.frozen? ⟨g, j, none⟩ = false)

end Go.Proofs.YtgfmcpipbmnagaaDoor
