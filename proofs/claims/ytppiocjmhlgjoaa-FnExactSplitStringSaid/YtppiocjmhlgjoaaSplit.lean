/-
  FnExactSplitString at the commit in COMMIT: for all texts aS and aSep the law returns true and its arguments read as before: SplitString of the program answers as the model's SplitString, and its answer owns its memory. No condition beyond the row's own cells.
-/
import Derived.Test.YtppiocjmhlgjoaaRows
import Derived.WalkKit
import Derived.ProofKit
import Derived.OpenShut
import Derived.ShutString
import Derived.ChangeOld
import Derived.Below
import Derived.Test.YtppiocjmhlgjoaaSplitRes
namespace Go.Proofs.Ytppiocjmhlgjoaa.fnExactSplitString
open Go.ChangeShapes Go.WideShapes Go.ChangeAt Go.RowKit
open Go.ChangeMaps (open_string shut_string)
set_option linter.unusedVariables false

theorem own : ownKnob Try.prog.godebug = none := by kernel_rfl
theorem laidOut : laidOutB Try.prog = true := by kernel_rfl

theorem walk (a0 : ByteArray) (a1 : ByteArray) (w : World) (w0 : a0.size ≤ maxLen) (w1 : a1.size ≤ maxLen) :
    Calls Try.prog 4 #[.string a0, .string a1] w fun e w' => e = .returned (.bool true) ∧ Below w.heap.size w w' := by
  obtain ⟨xs, ok, hl, hsp, him⟩ := split_both a0 a1 w0 w1
  have HS := Lib.hid hsp
  have HI := Lib.hid him
  clear hsp him
  by_cases h : a0.size ≤ 1048576
  · by_cases h2 : a1.size ≤ 1048576
    · go_enter Try.func4, Try.ntmps4
      go_wp2_with fail
      refine (HS.out _).mono ?_
      rintro e W1 ⟨g0, c0, rfl, hg0, hz0, hH0, _, hB1⟩
      have F1 : Hid (w.heap.size ≤ g0 ∧ g0 < W1.heap.size ∧ Holds W1 g0 xs ∧ Below w.heap.size w W1) := ⟨hg0, hz0, hH0, hB1⟩
      clear hg0 hz0 hH0 hB1
      go_wp2_with fail
      refine (HI.out _).mono ?_
      rintro e W2 ⟨g, c, rfl, hg, hz, hH, hF, hB2⟩
      have F2 : Hid (W1.heap.size ≤ g ∧ g < W2.heap.size ∧ Holds W2 g xs ∧ (∀ j, W2.frozen? ⟨g, j, none⟩ = false) ∧ Below W1.heap.size W1 W2) := ⟨hg, hz, hH, hF, hB2⟩
      clear hg hz hH hF hB2
      have G2 : Hid (Holds W2 g0 xs) := fun j x hx => (F2.out.2.2.2.2.cell (p := ⟨g0, j, none⟩) F1.out.2.1).trans (F1.out.2.2.1 j x hx)
      go_wp2_with fail
      refine (eq_yes g g0 c c0 xs _ (by omega) F2.out.2.2.1 G2.out).mono ?_
      rintro e W3 ⟨rfl, q1, rfl⟩
      have ho : ∀ j, j < xs.length → (∃ v, (W2.drewN q1).cell? ⟨g, j, none⟩ = some v) ∧ (W2.drewN q1).frozen? ⟨g, j, none⟩ = false := fun j hj =>
        ⟨⟨_, F2.out.2.2.1 j _ (List.getElem?_eq_getElem hj)⟩, F2.out.2.2.2.1 j⟩
      have HO := Lib.hid ho
      clear ho
      go_wp2_with fail
      refine (mark_any (some ⟨g, 0, none⟩) g xs.length c 1 _ (fun _ => rfl) (Nat.le_refl _) (by omega) HO.out).mono ?_
      rintro e W4 ⟨rfl, hM⟩
      have M := Lib.hid hM
      have B4 : Hid (Below w.heap.size w W4) := Lib.hid (((F1.out.2.2.2.trans (F2.out.2.2.2.2.mono F1.out.2.2.2.size)).trans (show Below w.heap.size W2 (W2.drewN q1) from ⟨rfl, rfl, rfl, Nat.le_refl _, fun _ _ => rfl⟩)).grown hM.grown
        (Nat.le_trans F1.out.2.2.2.size F2.out.2.2.2.2.size) (fun k e => by cases e; exact Nat.le_trans F1.out.2.2.2.size F2.out.1))
      have G4 : Hid (Holds W4 g0 xs) := fun j x hx => by
        have hne : some g0 ≠ some g := by
          intro e; cases e
          have := F1.out.2.1; have := F2.out.1; omega
        have hlt0 : g0 < W2.heap.size := Nat.lt_of_lt_of_le F1.out.2.1 F2.out.2.2.2.2.size
        have e1 : W4.cell? ⟨g0, j, none⟩ = (W2.drewN q1).cell? ⟨g0, j, none⟩ := World.cell?_of_block (hM.grown.block g0 hlt0 hne)
        exact e1.trans (G2.out j x hx)
      have L4 : Hid (g0 < W4.heap.size ∧ g < W4.heap.size) := by
        have h1 : W2.heap.size ≤ W4.heap.size := hM.grown.size
        have h2 : g0 < W2.heap.size := Nat.lt_of_lt_of_le F1.out.2.1 F2.out.2.2.2.2.size
        exact ⟨Nat.lt_of_lt_of_le h2 h1, Nat.lt_of_lt_of_le F2.out.2.1 h1⟩
      clear hM
      go_wp2_with fail
      refine (held_any (some ⟨g, 0, none⟩) g xs.length c 1 _ (fun _ => rfl) (Nat.le_refl _) (by omega) M.out.done).mono ?_
      rintro e W5 ⟨rfl, hB5⟩
      have B5 := Lib.hid hB5
      clear hB5
      go_wp2_with fail
      refine (HI.out _).mono ?_
      rintro e W6 ⟨g2, c2, rfl, hg2, hz2, hH2, _, hB6⟩
      have F6 : Hid (Holds W6 g2 xs ∧ Below W4.heap.size W4 W6) := ⟨hH2, B5.out.trans (hB6.mono B5.out.size)⟩
      clear hg2 hz2 hH2 hB6
      have G6 : Hid (Holds W6 g0 xs) := fun j x hx => (F6.out.2.cell (p := ⟨g0, j, none⟩) L4.out.1).trans (G4.out j x hx)
      go_wp2_with fail
      refine (eq_yes g2 g0 c2 c0 xs _ (by omega) F6.out.1 G6.out).mono ?_
      rintro e W7 ⟨rfl, q2, rfl⟩
      have D7 : Hid (∀ j, j < xs.length → (W6.drewN q2).cell? ⟨g, j, none⟩ = some (.string (mark (1 + j)))) := fun j hj => (F6.out.2.cell (p := ⟨g, j, none⟩) L4.out.2).trans (M.out.done j hj)
      go_wp2_with fail
      refine (held_any (some ⟨g, 0, none⟩) g xs.length c 1 _ (fun _ => rfl) (Nat.le_refl _) (by omega) D7.out).mono ?_
      rintro e W8 ⟨rfl, hB8⟩
      have B8 : Hid (Below w.heap.size w W8) := Lib.hid ((B4.out.trans (F6.out.2.mono B4.out.size)).trans ((show Below w.heap.size W6 (W6.drewN q2) from ⟨rfl, rfl, rfl, Nat.le_refl _, fun _ _ => rfl⟩).trans (hB8.mono (Nat.le_trans B4.out.size F6.out.2.size))))
      clear hB8
      go_wp2
      go_ret
      exact ⟨rfl, B8.out⟩
    · go_enter Try.func4, Try.ntmps4
      go_wp2
      go_ret
      exact ⟨rfl, Below.refl _ _⟩
  · go_enter Try.func4, Try.ntmps4
    go_wp2
    go_ret
    exact ⟨rfl, Below.refl _ _⟩

set_option maxRecDepth 100000 in
theorem lifted (os : Os) (started : os.Started) (H : Type) (enc : TypeId × Value → H) :
    ReturnsInHanded {} Try.checked os 4 .any (Rows.fnExactSplitStringSpec.pre6 enc Try.prog Try.f4 Rows.fnExactSplitStringRow.domain false) (Rows.fnExactSplitStringSpec.post enc Try.prog Try.f4 false true false false) := by
  refine returnsInHanded_of_change (C := Try.checked) own started (by kernel_rfl) Try.func4
    (ChangeSpec.witness6 (enc := enc) (C := Try.checked) false ⟨#[], #[.string ByteArray.empty, .string ByteArray.empty], []⟩ 8 (by kernel_rfl) (by kernel_rfl) (by kernel_rfl) (by kernel_rfl)) ?_
  intro W base args ds gs before hval0 hW hcnd _
  have hval : ∀ (j : Nat) t v, Try.f4.params[j]? = some t → args[j]? = some v → Value.okWide Try.prog W .any base t v := hval0
  have hW' := hW
  obtain ⟨p, q, hA0, hV, rfl, hfz, hnd⟩ := hW
  have hA : DataW.TrodAll enc Try.prog W 0 (fun _ => true) true Try.f4.params.toList args.toList ds p := hA0
  rw [Try.params4] at hA hval
  obtain ⟨v0, vs0, d0, ds0, p0, q0, hargs, rfl, rfl, h0, r0⟩ := trodAll_cons hA
  obtain ⟨v1, vs1, d1, ds1, p1, q1, rfl, rfl, rfl, h1, r1⟩ := trodAll_cons r0
  obtain ⟨rfl, rfl, rfl⟩ := trodAll_nil r1
  obtain rfl : args = #[v0, v1] := by cases args; simp_all
  obtain ⟨rfl, rfl⟩ := trodVars_none hV
  obtain ⟨a0, rfl, rfl, rfl, w0⟩ := open_string Try.underlying9 (hval 0 9 v0 rfl rfl) h0
  obtain ⟨a1, rfl, rfl, rfl, w1⟩ := open_string Try.underlying9 (hval 1 9 v1 rfl rfl) h1
  clear hA0 hval0
  refine (walk a0 a1 W w0 w1).mono fun e W' ⟨he, bel⟩ => ?_
  subst he
  exact ⟨_, rfl, _, _, _, [], _, [], hW', trodAll_mk1 (shut_bool Try.underlying4 _), (trodAll_cons_mk (shut_string Try.underlying9 w0) (trodAll_cons_mk (shut_string Try.underlying9 w1) trodAll_mk0)), rfl, bel.frame _, fun h => by cases h⟩

theorem over : Rows.fnExactSplitStringRow.holds Try.pinned (OpenSpec.ofChange Rows.fnExactSplitStringSpec) :=
  OpenClaim.holds_of_wide 4 Try.f4 rfl rfl rfl rfl rfl rfl rfl ⟨rfl, rfl, rfl, rfl, rfl⟩ rfl rfl rfl rfl rfl (by kernel_rfl) Try.func4 (by kernel_rfl)
    (of_decide_eq_true (by kernel_rfl)) (by unfold Func.isWrapper; first | (rw [if_pos (by decide +kernel)]; kernel_rfl) | (rw [if_neg (by decide +kernel)]; exact ⟨rfl, rfl⟩))
    (fun os started H enc _ => lifted os started H enc)

/-- The statement. -/
theorem proved : Rows.FnExactSplitStringSaid := over
end Go.Proofs.Ytppiocjmhlgjoaa.fnExactSplitString
