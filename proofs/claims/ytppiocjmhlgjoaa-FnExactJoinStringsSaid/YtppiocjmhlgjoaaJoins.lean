/-
  FnExactJoinStrings at the commit in COMMIT: for every list aParts and every text aSep the law returns true and its arguments read as before: JoinStrings of the program answers as the model's JoinStrings and leaves its argument alone. No condition beyond the row's own cells.
-/
import Derived.Test.YtppiocjmhlgjoaaRows
import Derived.WalkKit
import Derived.ProofKit
import Derived.OpenShut
import Derived.ShutString
import Derived.ChangeOld
import Derived.Below
import Derived.Test.YtppiocjmhlgjoaaSJoinW
namespace Go.Proofs.Ytppiocjmhlgjoaa.fnExactJoinStrings
open Go.ChangeShapes Go.WideShapes Go.ChangeAt Go.RowKit
open Go.ChangeMaps (open_string shut_string)
set_option linter.unusedVariables false

theorem own : ownKnob Try.prog.godebug = none := by kernel_rfl
theorem laidOut : laidOutB Try.prog = true := by kernel_rfl

theorem walk (a0 : Option Addr) (len0 cap0 : Nat) (z0 : List ByteArray) (a1 : ByteArray) (w : World) (w0 : IsTexts w a0 len0 cap0 z0) (w1 : a1.size ≤ maxLen) :
    Calls Try.prog 5 #[.slice a0 len0 cap0, .string a1] w fun e w' => e = .returned (.bool true) ∧ Below w.heap.size w w' := by
  obtain ⟨xs, b, o, rfl, hsrc, hsz, hlm⟩ := isTexts_src w0
  have HS := Lib.hid hsrc
  have HZ := Lib.hid hsz
  clear w0 hsrc hsz
  by_cases h : a1.size ≤ 1048576
  · by_cases ht : xs.length + bulk xs ≤ 1048576
    · obtain ⟨r, ok, hsp, him⟩ := join_both xs a1 ht w1
      have SP := Lib.hid hsp
      have IM := Lib.hid him
      have HT := Lib.hid ht
      clear hsp him ht
      go_enter Try.func5, Try.ntmps5
      go_wp2_with fail
      refine (sz_yes a0 b o cap0 xs _ HS.out HT.out).mono ?_
      rintro e w' ⟨k, rfl, rfl⟩
      go_wp2_with fail
      refine (toS_any a0 b o cap0 xs _ HS.out (by have := HT.out; omega)).mono ?_
      rintro e W1 ⟨rfl, hz1, hh1, hb1⟩
      have F1 : Hid (Holds W1 w'.heap.size xs ∧ Below w'.heap.size w' W1) := ⟨hh1, hb1⟩
      clear hz1 hh1 hb1
      go_wp2_with fail
      refine (SP.out _ _ _ _ _ (src_of_holds F1.out.1)).mono ?_
      rintro e W2 ⟨rfl, hb2⟩
      have F2 : Hid (Below w'.heap.size w' W2) := Lib.hid (F1.out.2.trans (hb2.mono F1.out.2.size))
      clear hb2
      go_wp2_with fail
      refine (toS_any a0 b o cap0 xs _ (HS.out.below F2.out) (by have := HT.out; omega)).mono ?_
      rintro e W3 ⟨rfl, hz3, hh3, hb3⟩
      have F3 : Hid (Holds W3 W2.heap.size xs ∧ W2.heap.size < W3.heap.size ∧ Below w'.heap.size w' W3) := ⟨hh3, hz3, F2.out.trans (hb3.mono F2.out.size)⟩
      clear hz3 hh3 hb3
      go_wp2_with fail
      refine (IM.out _ _ _ _ _ (src_of_holds F3.out.1) (Nat.le_refl _)).mono ?_
      rintro e W4 ⟨rfl, hb4⟩
      have F4 : Hid (Below w'.heap.size w' W4 ∧ Below W3.heap.size W3 W4) := ⟨F3.out.2.2.trans (hb4.mono F3.out.2.2.size), hb4⟩
      clear hb4
      go_wp2_with fail
      refine (toS_any a0 b o cap0 xs _ (HS.out.below F4.out.1) (by have := HT.out; omega)).mono ?_
      rintro e W5 ⟨rfl, hz5, hh5, hb5⟩
      have F5 : Hid (Holds W5 W4.heap.size xs ∧ Holds W5 W2.heap.size xs ∧ Below w'.heap.size w' W5) := ⟨hh5, fun j x hx => by
        have h3 : W2.heap.size < W4.heap.size := Nat.lt_of_lt_of_le F3.out.2.1 F4.out.2.size
        exact ((hb5.cell (p := ⟨W2.heap.size, j, none⟩) h3).trans (F4.out.2.cell (p := ⟨W2.heap.size, j, none⟩) F3.out.2.1)).trans (F3.out.1 j x hx), F4.out.1.trans (hb5.mono F4.out.1.size)⟩
      clear hz5 hh5 hb5
      go_wp2_with fail
      refine (eq_yes W2.heap.size W4.heap.size _ _ xs _ (by have := HT.out; omega) F5.out.2.1 F5.out.1).mono ?_
      rintro e W6 ⟨rfl, q, rfl⟩
      have F6 : Hid (Below w'.heap.size w' (W5.drewN q)) := Lib.hid (F5.out.2.2.trans ⟨rfl, rfl, rfl, Nat.le_refl _, fun _ _ => rfl⟩)
      go_wp2
      go_ret
      exact ⟨rfl, F6.out⟩
    · have HT := Lib.hid ht
      clear ht
      go_enter Try.func5, Try.ntmps5
      go_wp2_with fail
      refine (sz_no a0 b o cap0 xs _ HS.out HZ.out hlm (by have := HT.out; omega)).mono ?_
      rintro e w' ⟨rfl, rfl⟩
      go_wp2
      go_ret
      exact ⟨rfl, Below.refl _ _⟩
  · go_enter Try.func5, Try.ntmps5
    go_wp2
    go_ret
    exact ⟨rfl, Below.refl _ _⟩

set_option maxRecDepth 100000 in
theorem lifted (os : Os) (started : os.Started) (H : Type) (enc : TypeId × Value → H) :
    ReturnsInHanded {} Try.checked os 5 .any (Rows.fnExactJoinStringsSpec.pre6 enc Try.prog Try.f5 Rows.fnExactJoinStringsRow.domain false) (Rows.fnExactJoinStringsSpec.post enc Try.prog Try.f5 false true false false) := by
  refine returnsInHanded_of_change (C := Try.checked) own started (by kernel_rfl) Try.func5
    (ChangeSpec.witness6 (enc := enc) (C := Try.checked) false ⟨#[], #[.slice none 0 0, .string ByteArray.empty], []⟩ 8 (by kernel_rfl) (by kernel_rfl) (by kernel_rfl) (by kernel_rfl)) ?_
  intro W base args ds gs before hval0 hW hcnd _
  have hval : ∀ (j : Nat) t v, Try.f5.params[j]? = some t → args[j]? = some v → Value.okWide Try.prog W .any base t v := hval0
  have hW' := hW
  obtain ⟨p, q, hA0, hV, rfl, hfz, hnd⟩ := hW
  have hA : DataW.TrodAll enc Try.prog W 0 (fun _ => true) true Try.f5.params.toList args.toList ds p := hA0
  rw [Try.params5] at hA hval
  obtain ⟨v0, vs0, d0, ds0, p0, q0, hargs, rfl, rfl, h0, r0⟩ := trodAll_cons hA
  obtain ⟨v1, vs1, d1, ds1, p1, q1, rfl, rfl, rfl, h1, r1⟩ := trodAll_cons r0
  obtain ⟨rfl, rfl, rfl⟩ := trodAll_nil r1
  obtain rfl : args = #[v0, v1] := by cases args; simp_all
  obtain ⟨rfl, rfl⟩ := trodVars_none hV
  obtain ⟨a0, len0, cap0, rfl⟩ := okWide_slice Try.underlying26 (hval 0 26 v0 rfl rfl)
  have k0 := h0
  have lt0 : ∀ x ∈ p0, x.block < W.heap.size := by obtain ⟨m, hm⟩ := k0; exact DataW.trod_lt m _ _ _ hm
  obtain ⟨z0, w0⟩ : ∃ ss, IsTexts W a0 len0 cap0 ss := by
    obtain ⟨fuel, hf⟩ := h0
    rcases open_strings Try.underlying26 Try.underlying9 (by kernel_rfl) hf with ⟨hcs, _⟩ | ⟨x, l, c, ss, hcs, _, hl, hm, hz, _, hcell, hws⟩
    · simp [Value.cells] at hcs
      obtain ⟨rfl, rfl, rfl⟩ := hcs
      exact ⟨[], .inl ⟨rfl, rfl, rfl, rfl⟩⟩
    · simp [Value.cells] at hcs
      obtain ⟨rfl, rfl, rfl⟩ := hcs
      exact ⟨ss, .inr ⟨_, rfl, hl, hm, by simpa using hz, hcell, hws⟩⟩
  obtain ⟨a1, rfl, rfl, rfl, w1⟩ := open_string Try.underlying9 (hval 1 9 v1 rfl rfl) h1
  clear hA0 hval0
  refine (walk a0 len0 cap0 z0 a1 W w0 w1).mono fun e W' ⟨he, bel⟩ => ?_
  subst he
  exact ⟨_, rfl, _, _, _, [], _, [], hW', trodAll_mk1 (shut_bool Try.underlying4 _), (trodAll_cons_mk (Below.trod laidOut (by kernel_rfl) (of_decide_eq_true (by kernel_rfl)) k0 bel lt0) (trodAll_cons_mk (shut_string Try.underlying9 w1) trodAll_mk0)), rfl, bel.frame _, fun h => by cases h⟩

theorem over : Rows.fnExactJoinStringsRow.holds Try.pinned (OpenSpec.ofChange Rows.fnExactJoinStringsSpec) :=
  OpenClaim.holds_of_wide 5 Try.f5 rfl rfl rfl rfl rfl rfl rfl ⟨rfl, rfl, rfl, rfl, rfl⟩ rfl rfl rfl rfl rfl (by kernel_rfl) Try.func5 (by kernel_rfl)
    (of_decide_eq_true (by kernel_rfl)) (by unfold Func.isWrapper; first | (rw [if_pos (by decide +kernel)]; kernel_rfl) | (rw [if_neg (by decide +kernel)]; exact ⟨rfl, rfl⟩))
    (fun os started H enc _ => lifted os started H enc)

/-- The statement. -/
theorem proved : Rows.FnExactJoinStringsSaid := over
end Go.Proofs.Ytppiocjmhlgjoaa.fnExactJoinStrings
