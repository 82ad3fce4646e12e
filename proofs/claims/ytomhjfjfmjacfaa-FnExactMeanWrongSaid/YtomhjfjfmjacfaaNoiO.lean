/-
  How a noise that came in is opened. Used by the claims on chapter 7.
-/
import Derived.Test.YtomhjfjfmjacfaaNoiW
import Derived.ChangeSame
import Derived.SliceStrings
import Derived.ChangeAt
import Derived.OpenShut
import Derived.ShutString
namespace Go.Proofs.Ytomhjfjfmjacfaa
open Go.RowKit Go.ChangeShapes
set_option linter.unusedVariables false

set_option maxRecDepth 100000 in
theorem open_noi {H : Type} {enc : TypeId × Value → H} {W : World} {t : TypeId} {cs : Array Value} {d : DataW H} {p : List MemPlace} {f0 f1 : Field} (ht : Try.prog.underlying t = some (.struct #[f0, f1])) (hty0 : f0.type = 3) (hof0 : f0.offset = 0) (hty1 : f1.type = 3) (hof1 : f1.offset = 1) (hc : Try.prog.cellsOf t = 2)
    (h : DataW.Trod enc Try.prog W 0 (fun _ => true) true t (.agg cs) d p) : ∃ x y, cs = #[.int .i64 x, .int .i64 y] ∧ (Lit.int .i64 x).wf = true ∧ (Lit.int .i64 y).wf = true := by
  obtain ⟨fuel, hf⟩ := h
  obtain ⟨y0, y1, n, _, hlen, hf0, hf1⟩ := trod_struct2 ht hf
  have hcells : (Value.agg cs).cells.toList = cs.toList := by simp [Value.cells]
  rw [hcells] at hlen hf0 hf1
  rw [hty0, hof0] at hf0
  rw [hty1, hof1] at hf1
  rw [hc] at hlen
  obtain ⟨u, v, hv⟩ : ∃ u v, cs = #[u, v] := by
    obtain ⟨l⟩ := cs
    match l, hlen with
    | [u, v], _ => exact ⟨u, v, rfl⟩
  subst hv
  have hc1 : Try.prog.cellsOf 3 = 1 := by kernel_rfl
  rw [hc1] at hf0 hf1
  obtain ⟨n0, h0, _, hw0⟩ := DataW.trod_int Try.underlying3 hf0
  obtain ⟨n1, h1, _, hw1⟩ := DataW.trod_int Try.underlying3 hf1
  have h0' : [u] = [.int .i64 n0] := h0
  have h1' : [v] = [.int .i64 n1] := h1
  obtain rfl := (List.cons.inj h0').1
  obtain rfl := (List.cons.inj h1').1
  exact ⟨n0, n1, rfl, hw0, hw1⟩
/-- What a law's walk carries of its noise's own block. -/
structure CarL (w : World) (g : Nat) (N d : Int) (W : World) : Prop where
  noi : Pr2 23 W g N d
  below : Below w.heap.size w W
theorem CarL.step {w : World} {g : Nat} {N d : Int} {W W' : World} (h : CarL w g N d W) (hb : Below W.heap.size W W') : CarL w g N d W' :=
  ⟨h.noi.below hb, h.below.trans (hb.mono h.below.size)⟩
theorem carL_new (w : World) (N d : Int) : CarL w w.heap.size N d (w.alloc (.cells #[.int .i64 N, .int .i64 d] 23)) := ⟨pr2_new _ w N d, below_alloc w _⟩
end Go.Proofs.Ytomhjfjfmjacfaa
