/-
  BareOf, the model's, and both together. Used by the claims on chapter 2.
-/
import Derived.Test.YtekgmdigchobbaaBareB
namespace Go.Proofs.Ytekgmdigchobbaa
open Go.RowKit
set_option linter.unusedVariables false

theorem sBareV_any (a : Option Addr) (b o c : Nat) (xs : List ByteArray) (m : ByteArray) (w : World) (h : ListIn w a b o xs) (ht : tableB xs = true) (hm : msgL xs.length (bl m) = true) :
    Calls Try.prog 110 #[.agg #[.slice a xs.length c], .string m] w fun e w' => e = .returned (.string (ba (bareL (xs.map bl) (bl m)))) ∧ Below w.heap.size w w' :=
  sBareL_any a b o c xs m w h (by have := msgGo_len hm; rw [bl_len] at this; omega) (fun x hx => by
    have := ((tableB_iff xs).1 ht).2.1 x hx
    simp only [marksL, Bool.and_eq_true, decide_eq_true_eq, bl_len] at this
    exact this.1.2) ((tableB_iff xs).1 ht).1.2 (msg_sign hm)

end Go.Proofs.Ytekgmdigchobbaa
