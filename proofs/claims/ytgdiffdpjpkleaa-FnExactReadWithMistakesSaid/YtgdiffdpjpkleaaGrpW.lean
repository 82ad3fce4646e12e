/-
  A map from numbers to slices of the call's own: how its block is read through values as they stand, and what a round keeps that appends to the slice at a key. Used by the claims on chapter 6.
-/
import Derived.Test.YtgdiffdpjpkleaaDstW
import Derived.Maps.OwnSet
namespace Go.Proofs.Ytgdiffdpjpkleaa
open Go.RowKit Go.Maps
set_option linter.unusedVariables false

/-- An element read as the very value that it is. -/
def rawE (v : Value) : Option (DataW Value × List MemPlace) := some (.held v, [])
def keyN (d : Nat) : Lit := .int .i64 (d : Int)
theorem keyN_ne {d d' : Nat} (h : d ≠ d') : keyN d ≠ keyN d' := fun e => h (by
  unfold keyN at e
  injection e with _ e2
  omega)
theorem keyN_ok (d : Nat) : WideAt.IsKeyLit (keyN d) := trivial
theorem lawN : Keyed Try.prog 3 := int_keyed Try.underlying3
theorem keyN_of {d : Nat} (h : d ≤ 1000) : keyOf Try.prog 3 (.int .i64 (d : Int)) = some (keyN d) := keyOf_int_mk Try.underlying3 (WalkArith.wf_i64 (by omega))

section
variable {P : Program} (w : World) {ops : Array Oper} {rest : List Oper} {o : Oper} {a : Act} {Q : Exit → Act → World → Prop}
theorem wpList_lookup_raw (hg : o.guard = none) (m x : Operand) (t : TypeId) (hop : o.op = Op.lookup t m x false)
    (k e : TypeId) (K : Keyed P k) (ht : P.underlying t = some (.map k e)) (z : Value) (hz : (zeroValue e).run P w = .ok z w) (b n : Nat) (D : DataW Value)
    (hm : a.eval m = .map (some b)) (hown : w.ownsMap P k rawE b n D) (key : Value) (kl : Lit) (hx : a.eval x = key) (hkey : keyOf P k key = some kl) (v : Value) (hv : D.atKey kl (.held z) = .held v)
    (hK : wpList P ops Q rest (a.put o.dst v) w) :
    wpList P ops Q (o :: rest) a w := by
  refine wpList_plain hg fun K' hK' => ?_
  obtain ⟨v', ps, hrun, hv'⟩ := hown.lookup K ht hz (show rawE z = some (.held z, []) from rfl) hkey
  rw [hv] at hv'
  simp only [rawE, Option.some.injEq, Prod.mk.injEq, DataW.held.injEq] at hv'
  obtain ⟨rfl, _⟩ := hv'
  unfold Oper.wp
  simp [execOp, hop, hm, hx, hrun, Result.andThen]
  exact hK' _ _ hK
theorem wpList_lookup_raw_ok (hg : o.guard = none) (m x : Operand) (t : TypeId) (hop : o.op = Op.lookup t m x true)
    (k e : TypeId) (K : Keyed P k) (ht : P.underlying t = some (.map k e)) (z : Value) (hz : (zeroValue e).run P w = .ok z w) (b n : Nat) (D : DataW Value)
    (hm : a.eval m = .map (some b)) (hown : w.ownsMap P k rawE b n D) (key : Value) (kl : Lit) (hx : a.eval x = key) (hkey : keyOf P k key = some kl) (v : Value) (hv : D.atKey kl (.held z) = .held v) (q : Bool) (hq : Maps.has D kl = q)
    (hK : wpList P ops Q rest (a.put o.dst (.tuple #[v, .bool q])) w) :
    wpList P ops Q (o :: rest) a w :=
  wpList_lookup_own_ok w hg m x t hop k e K ht rawE hz (.held z) [] rfl b n D hm hown key kl hx hkey (fun v' ps hv' => by
    rw [hv] at hv'
    simp only [rawE, Option.some.injEq, Prod.mk.injEq, DataW.held.injEq] at hv'
    obtain ⟨rfl, _⟩ := hv'
    rw [hq]; exact hK)
end

abbrev nilS : Value := .slice none 0 0
/-- The map in block b: at each number a slice of the call's own that holds 'cells (F d)', no two in one row; there is one where F d is not empty. -/
structure Groups {α : Type} (w : World) (b base : Nat) (e : TypeId) (size : Nat) (cells : List α → List Value) (F : Nat → List α) (n : Nat) (D : DataW Value) (sv : Nat → Value) : Prop where
  own : w.ownsMap Try.prog 3 rawE b n D
  at_ : ∀ d, D.atKey (keyN d) (.held nilS) = .held (sv d)
  has_ : ∀ d, Maps.has D (keyN d) = !(F d).isEmpty
  row : ∀ d, w.ownsRow base e size (sv d) (F d).length (cells (F d))
  apart : ∀ d d', d ≠ d' → (sv d).ownBlock = none ∨ (sv d).ownBlock ≠ (sv d').ownBlock
  lt : b < base
theorem Groups.form {α : Type} {w : World} {b base : Nat} {e : TypeId} {size : Nat} {cells : List α → List Value} {F : Nat → List α} {n : Nat} {D : DataW Value} {sv : Nat → Value} (h : Groups w b base e size cells F n D sv) (d : Nat) : ∃ a c, sv d = .slice a (F d).length c := row_form (h.row d)
theorem Groups.kept {α : Type} {w w' : World} {b base : Nat} {e : TypeId} {size : Nat} {cells : List α → List Value} {F : Nat → List α} {n : Nat} {D : DataW Value} {sv : Nat → Value} (h : Groups w b base e size cells F n D sv) (hb : Below w.heap.size w w') : Groups w' b base e size cells F n D sv :=
  ⟨h.own.kept (row := none) ⟨hb.os, hb.tape, hb.output, hb.size, fun i hi _ => hb.block i hi⟩ (by simp), h.at_, h.has_, fun d => row_below (h.row d) hb, h.apart, h.lt⟩
theorem groups_made {α : Type} (w : World) (e : TypeId) (size : Nat) (cells : List α → List Value) (hc : cells [] = []) : Groups (w.alloc (.map #[] 0)) w.heap.size (w.heap.size + 1) e size cells (fun _ => []) 0 (.map []) (fun _ => nilS) :=
  ⟨World.ownsMap_made _ _ _ _, fun d => rfl, fun d => rfl, fun d => by rw [hc]; exact World.ownsRow_nil _ _ _ _, fun d d' _ => .inl rfl, Nat.lt_succ_self _⟩
theorem ownBlock_ge {w : World} {base : Nat} {e : TypeId} {size : Nat} {v : Value} {n : Nat} {xs : List Value} (h : w.ownsRow base e size v n xs) {q : Nat} (hq : v.ownBlock = some q) : base ≤ q ∧ q < w.heap.size := h.lt q hq
/-- Between the look-up and the store the map is as it was. -/
theorem Groups.map_mid {α : Type} {w w2 : World} {b base : Nat} {e : TypeId} {size : Nat} {cells : List α → List Value} {F : Nat → List α} {n : Nat} {D : DataW Value} {sv : Nat → Value} (h : Groups w b base e size cells F n D sv) (d0 : Nat) (o : Obj) (hg : (w.alloc o).grownBy w2 (sv d0).ownBlock) : w2.ownsMap Try.prog 3 rawE b n D :=
  (h.own.alloc o).kept hg (fun e => by
    have := (ownBlock_ge (h.row d0) e.symm).1
    have := h.lt
    omega)
/-- A round: the slice at d0 has got one more. -/
theorem Groups.step {α : Type} {w w2 w3 : World} {b base : Nat} {e : TypeId} {size : Nat} {cells : List α → List Value} {F : Nat → List α} {n : Nat} {D : DataW Value} {sv : Nat → Value} (h : Groups w b base e size cells F n D sv) (d0 : Nat) (x : α) (o : Obj) (v : Value)
    (hg : (w.alloc o).grownBy w2 (sv d0).ownBlock) (hv : w2.ownsRow base e size v (F d0 ++ [x]).length (cells (F d0 ++ [x]))) (hat : (sv d0).ownBlock = v.ownBlock ∨ v.ownBlock = some (w.heap.size + 1))
    (hown : w3.ownsMap Try.prog 3 rawE b (n + 1) (D.put (keyN d0) (.held v))) (hg3 : w2.grownBy w3 (some b)) (F' : Nat → List α) (hF : F' d0 = F d0 ++ [x]) (hF2 : ∀ d, d ≠ d0 → F' d = F d) :
    Groups w3 b base e size cells F' (n + 1) (D.put (keyN d0) (.held v)) (fun d => if d = d0 then v else sv d) := by
  have hb : ∀ {u : Value} {m : Nat} {xs : List Value} {W : World}, W.ownsRow base e size u m xs → u.ownBlock = none ∨ u.ownBlock ≠ some b := fun {u m xs W} hu => by
    cases hq : u.ownBlock with
    | none => exact .inl rfl
    | some q => exact .inr (fun e => by have := (ownBlock_ge hu hq).1; have := h.lt; injection e; omega)
  refine ⟨hown, fun d => ?_, fun d => ?_, fun d => ?_, fun d d' hne => ?_, h.lt⟩
  · by_cases e1 : d = d0
    · subst e1
      rw [if_pos rfl, atKey_put_same h.own.isMap (keyN_ok _)]
    · rw [if_neg e1, atKey_put_other (keyN_ne e1)]
      exact h.at_ d
  · by_cases e1 : d = d0
    · subst e1
      rw [has_put_same h.own.isMap (keyN_ok _), hF]
      cases F d <;> rfl
    · rw [has_put_other (keyN_ne e1), hF2 d e1]
      exact h.has_ d
  · by_cases e1 : d = d0
    · subst e1
      rw [if_pos rfl, hF]
      exact hv.kept hg3 (hb hv)
    · rw [if_neg e1, hF2 d e1]
      exact (((h.row d).alloc o).kept hg (h.apart d d0 e1)).kept hg3 (hb (h.row d))
  · by_cases e1 : d = d0
    · subst e1
      rw [if_pos rfl, if_neg (Ne.symm hne)]
      rcases hat with h1 | h1
      · rw [← h1]; exact h.apart d d' hne
      · right
        rw [h1]
        intro e2
        have := (ownBlock_ge (h.row d') e2.symm).2
        omega
    · rw [if_neg e1]
      by_cases e2 : d' = d0
      · subst e2
        rw [if_pos rfl]
        rcases hat with h1 | h1
        · rw [← h1]; exact h.apart d d' hne
        · cases hq : (sv d).ownBlock with
          | none => exact .inl rfl
          | some q =>
            right
            rw [h1]
            intro e3
            have := (ownBlock_ge (h.row d) hq).2
            injection e3
            omega
      · rw [if_neg e2]; exact h.apart d d' hne
end Go.Proofs.Ytgdiffdpjpkleaa
