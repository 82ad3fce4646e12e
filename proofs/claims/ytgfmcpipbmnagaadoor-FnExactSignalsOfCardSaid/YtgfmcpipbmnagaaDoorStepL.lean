/-
  A row that lists the two package-level errors: its step, what the listed errors give, how the variables are read again. Used by the tied cards of this seat.
-/
import Derived.Test.YtgfmcpipbmnagaaDoorRdI
import Derived.WalkKit
import Derived.ProofKit
import Derived.LaidMore
import Derived.Stop.Joined
import Derived.Stop.LaidTwo
import Derived.RowKitTokens
import Derived.ChangeVars
import Derived.LaidLaws
import Derived.MakeChecks
namespace Go.Proofs.YtgfmcpipbmnagaaDoor
open Go.RowKit Go.ChangeShapes Go.WideShapes
set_option linter.unusedVariables false

variable {H : Type} {enc : TypeId × Value → H}
set_option maxRecDepth 100000 in
/-- The row's step: a contract at every world that holds what is listed. -/
theorem step_laid {os : Os} {f : FuncId} {fn : Func} {s : ChangeSpec} {X : World → Prop} (hX : ∀ w w' : World, w.heap = w'.heap → X w → X w') (own : ownKnob Tryd.prog.godebug = none) (started : os.Started) (no : Tryd.prog.inits.idxOf? f = none) (hfn : Tryd.prog.funcs[f]? = some fn)
    (wit : ∃ (w : World) (tape : Tape) (i : Input), w.os = os ∧ (w.forCall tape i).Shaped Tryd.prog ∧ i.vars = [] ∧ Input.okWide Tryd.prog (w.forCall tape i) .any w.heap.size f i ∧
      ((s.pre enc Tryd.prog fn [] false (w.forCall tape i).memory i.args ∧ X (w.forCall tape i).memory) ∧ sizedMet enc Tryd.prog fn (OpenSpec.ofChange s) false (w.forCall tape i).memory i.args) ∧ ({} : Assume).holds Tryd.prog (lone (Frame.enter Tryd.prog f i.args .normal) [] (w.forCall tape i)))
    (con : ∀ (W : World) (base : Nat) (args : Array Value) (ds gs : List (DataW H)) (before : List MemPlace),
      (∀ (j : Nat) t v, fn.params[j]? = some t → args[j]? = some v → Value.okWide Tryd.prog W .any base t v) → DataW.Whole enc Tryd.prog fn.params.toList s.vars false W args.toList ds gs before → X W →
      Calls Tryd.prog f args W fun e W' => ∃ v, e = .returned v ∧ s.post enc Tryd.prog fn false true false false W args v W') :
    ReturnsInHanded {} Tryd.checked os f .any (fun w args => (s.pre enc Tryd.prog fn [] false w args ∧ X w) ∧ sizedMet enc Tryd.prog fn (OpenSpec.ofChange s) false w args) (s.post enc Tryd.prog fn false true false false) := by
  refine returnsInHanded_of_calls (C := Tryd.checked) own started no wit fun w tape i _ hs _ hok hpre _ => ?_
  rcases hok with ⟨_, _, _, fn', h1, _, _, _, _, hval⟩
  obtain rfl : fn' = fn := Option.some.inj (h1.symm.trans hfn)
  rcases hpre with ⟨⟨⟨ds, gs, before, hw, _⟩, hx⟩, _⟩
  have h2 := con (w.forCall tape i) w.heap.size i.args ds gs before hval (DataW.Whole.of_heap (w' := w.forCall tape i) (by rfl) hw) (hX _ _ (by rfl) hx)
  exact h2.mono fun e W' ⟨v, he, hp⟩ => by subst he; exact ChangeSpec.post_blind hp

theorem star : "*" ++ "errors.errorString" = "*errors.errorString" := by decide
theorem rowErr (u : TypeId) (h : Tryd.prog.typeName? 3 u = some "*errors.errorString") : u = 118 :=
  typeName_ptr_named (nm := "errors.errorString") (by rw [star]; kernel_rfl) (by kernel_rfl) (by decide) u (by rw [star]; exact h)
theorem gNoSig : Tryd.prog.globalNamed "loop.example/g01248/impl.errNoSignal" = some 0 := by kernel_rfl
theorem gNotVal : Tryd.prog.globalNamed "loop.example/g01248/impl.errNotValid" = some 1 := by kernel_rfl
theorem tNoSig : (Tryd.prog.globals[0]?).map (·.type) = some 62 := by kernel_rfl
theorem tNotVal : (Tryd.prog.globals[1]?).map (·.type) = some 62 := by kernel_rfl
/-- What the two listed errors give. -/
theorem sent_of_laid {W : World} (h : laidMet Tryd.prog [("loop.example/g01248/impl.errNotValid", Rows.laid_loop_example_g01248_impl_errNotValid), ("loop.example/g01248/impl.errNoSignal", Rows.laid_loop_example_g01248_impl_errNoSignal)] W) :
    ∃ a0 a1, Sent W a0 a1 ∧ W.var? Tryd.prog "loop.example/g01248/impl.errNoSignal" = some #[.iface 118 (.pointer (some a0))] ∧ W.var? Tryd.prog "loop.example/g01248/impl.errNotValid" = some #[.iface 118 (.pointer (some a1))] := by
  obtain ⟨x0, x1, s0, s1, c0, c1, t0, t1, hv0, hv1, _, _, _, _, _, _, hne, hb0, hb1⟩ := laid_sentinels2 h gNotVal tNotVal gNoSig tNoSig Tryd.underlying62 rowErr Tryd.underlying118 Tryd.underlying143 rfl rfl Tryd.underlying9 (by kernel_rfl) (by kernel_rfl)
  refine ⟨x1, x0, ⟨?_, ?_, ⟨c1, t1, hb1⟩, ⟨c0, t0, hb0⟩, fun e => hne e.symm⟩, hv1, hv0⟩
  · simpa using World.var?_cell gNoSig hv1 0
  · simpa using World.var?_cell gNotVal hv0 0
theorem vars_ab {W : World} {x0 x1 : Value} (h0 : W.var? Tryd.prog "loop.example/g01248/impl.errNotValid" = some #[x0]) (h1 : W.var? Tryd.prog "loop.example/g01248/impl.errNoSignal" = some #[x1]) (i0 : IsIface x0) (i1 : IsIface x1) (sp : Nat → Bool) :
    DataW.TrodVars enc Tryd.prog W sp ["loop.example/g01248/impl.errNotValid", "loop.example/g01248/impl.errNoSignal"] [tok enc x0, tok enc x1] [.cell 1 0, .cell 0 0] :=
  ⟨_, 62, #[x0], 1, [], [.cell 0 0], gNotVal, tNotVal, h0, trod_held Tryd.underlying62 i0 0, ⟨_, 62, #[x1], 1, [], [], gNoSig, tNoSig, h1, trod_held Tryd.underlying62 i1 0, rfl, rfl⟩, rfl⟩
theorem vars_ba {W : World} {x0 x1 : Value} (h0 : W.var? Tryd.prog "loop.example/g01248/impl.errNoSignal" = some #[x0]) (h1 : W.var? Tryd.prog "loop.example/g01248/impl.errNotValid" = some #[x1]) (i0 : IsIface x0) (i1 : IsIface x1) (sp : Nat → Bool) :
    DataW.TrodVars enc Tryd.prog W sp ["loop.example/g01248/impl.errNoSignal", "loop.example/g01248/impl.errNotValid"] [tok enc x0, tok enc x1] [.cell 0 0, .cell 1 0] :=
  ⟨_, 62, #[x0], 1, [], [.cell 1 0], gNoSig, tNoSig, h0, trod_held Tryd.underlying62 i0 0, ⟨_, 62, #[x1], 1, [], [], gNotVal, tNotVal, h1, trod_held Tryd.underlying62 i1 0, rfl, rfl⟩, rfl⟩
theorem var_below {W W' : World} {n : String} {cs : Array Value} (h : W.var? Tryd.prog n = some cs) (hb : Below W.heap.size W W') : W'.var? Tryd.prog n = some cs := by
  unfold World.var? at h ⊢
  cases hg : Tryd.prog.globalNamed n with
  | none => simp [hg] at h
  | some g =>
    simp only [hg, Option.bind_some] at h ⊢
    have hlt : g < W.heap.size := by
      rcases Nat.lt_or_ge g W.heap.size with h' | h'
      · exact h'
      · simp [Array.getElem?_eq_none h'] at h
    rw [hb.block g hlt]
    exact h
end Go.Proofs.YtgfmcpipbmnagaaDoor
