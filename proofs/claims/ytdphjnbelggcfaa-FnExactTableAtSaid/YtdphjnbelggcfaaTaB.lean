/-
  TableAt: the program's and the model's answer alike. Used by the claims on chapter 9.
-/
import Derived.Test.YtdphjnbelggcfaaTaS
namespace Go.Proofs.Ytdphjnbelggcfaa
open Go.RowKit
set_option linter.unusedVariables false

theorem taR_len (l m r : Int) : (taR l m r).length ≤ 10 := by
  cases hv : taB l m r with
  | false => rw [ta_no hv]; simp
  | true =>
    obtain ⟨n, k, L, q, rfl, n1, n2, rfl, hO, rfl, hq, hRes⟩ := ta_yes hv
    rw [hRes]
    have := (tat_keep (n := n) (show L ≤ 62 by have := hO.le; omega) hq n (Nat.le_refl _)).len
    unfold txsN
    rw [List.length_map, this]; exact n2
theorem tableAt_both (l m r : Int) (hl : (Lit.int .i64 l).wf = true) (hm : (Lit.int .i64 m).wf = true) (hr : (Lit.int .i64 r).wf = true) : ∃ (ys : List ByteArray) (R1 : Bool), ys.length ≤ 1048576 ∧
    Hid (∀ W, Calls Try.prog 52 #[.int .i64 l, .int .i64 m, .int .i64 r] W (TabOut ys R1 W)) ∧
    Hid (∀ W, Calls Try.prog 53 #[.int .i64 l, .int .i64 m, .int .i64 r] W (TabOut ys R1 W)) :=
  ⟨taR l m r, taB l m r, by have := taR_len l m r; omega, fun W => sTableAt_any l m r W, fun W => tableAt_any l m r W⟩
end Go.Proofs.Ytdphjnbelggcfaa
