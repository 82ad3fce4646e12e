/-
  Contracts of SplitString, of the model and of the program, in one form, and of the laws' eqStringS. Used by the claims on SplitString.
-/
import Derived.Test.YtppiocjmhlgjoaaMarkW
import Derived.Test.YtppiocjmhlgjoaaSplitIW
namespace Go.Proofs.Ytppiocjmhlgjoaa
open Go.RowKit
set_option linter.unusedVariables false

/-- A list of texts in a block. -/
def Holds (W : World) (g : Nat) (xs : List ByteArray) : Prop := ∀ (j : Nat) x, xs[j]? = some x → W.cell? ⟨g, j, none⟩ = some (.string x)

/-- How SplitString ends, either one: a list of its own. -/
def SplitRes (xs : List ByteArray) (ok : Bool) (W : World) (e : Ending) (W' : World) : Prop :=
  ∃ g c, e = .returned (.tuple #[.slice (some ⟨g, 0, none⟩) xs.length c, .bool ok]) ∧ W.heap.size ≤ g ∧ g < W'.heap.size ∧ Holds W' g xs ∧ (∀ j, W'.frozen? ⟨g, j, none⟩ = false) ∧ Below W.heap.size W W'

theorem res_of_row {xs : List ByteArray} {ok : Bool} {W W' : World} {v : Value} (h1 : 1 ≤ xs.length) (hrow : W'.ownsRow W.heap.size 9 1 v xs.length (xs.map Value.string)) (hb : Below W.heap.size W W') : SplitRes xs ok W (.returned (.tuple #[v, .bool ok])) W' := by
  rcases hrow.2 with ⟨_, h0⟩ | ⟨g, cap, cur, rfl, hg, hh, _⟩
  · omega
  · refine ⟨g, cap, rfl, hg, (Array.getElem?_eq_some_iff.1 hh).1, fun j x hx => ?_, fun j => by simp [World.frozen?, hh], hb⟩
    have := hrow.cells (g := g) rfl j (.string x) (by simp [hx])
    rw [Addr.add_lit, Nat.zero_add] at this
    exact this
theorem res_of_none {ok : Bool} (W : World) : SplitRes [] ok W (.returned (.tuple #[.slice (some ⟨W.heap.size, 0, none⟩) 0 0, .bool ok])) (W.alloc (.cells #[] 9)) := by
  refine ⟨W.heap.size, 0, rfl, Nat.le_refl _, by simp, fun j x hx => by simp at hx, fun j => ?_, (Below.refl _ _).alloc (Nat.le_refl _) _⟩
  have := heap_alloc_new W (.cells #[] 9)
  unfold World.frozen?
  rw [this]
  simp

theorem split_long (s sep : ByteArray) (w : World) (hm : s.size ≤ maxLen) (h : 4000 < s.size) :
    Calls Try.prog 10 #[.string s, .string sep] w fun e w' => e = .returned (.tuple #[.slice (some ⟨w.heap.size, 0, none⟩) 0 0, .bool false]) ∧ w' = w.alloc (.cells #[] 9) := by
  unfold maxLen at hm
  go_enter Try.func10, Try.ntmps10
  go_wp2
  go_ret2
  exact ⟨rfl, rfl⟩
theorem split_sep (s sep : ByteArray) (w : World) (hm : sep.size ≤ maxLen) (hs : s.size ≤ 4000) (h : sep.size ≠ 1) :
    Calls Try.prog 10 #[.string s, .string sep] w fun e w' => e = .returned (.tuple #[.slice (some ⟨w.heap.size, 0, none⟩) 0 0, .bool false]) ∧ w' = w.alloc (.cells #[] 9) := by
  unfold maxLen at hm
  have n1 : ((sep.size : Int) == 1) = false := beq_false_of_ne (by omega)
  have n2 : ((sep.size : Int) != 1) = true := by rw [bne, n1]; rfl
  clear h
  go_enter Try.func10, Try.ntmps10
  go_wp2
  go_ret2
  exact ⟨rfl, rfl⟩
theorem sspec_long (s : ByteArray) (b : UInt8) (w : World) (hm : s.size ≤ maxLen) (h : 4000 < s.size) :
    Calls Try.prog 17 #[.string s, .string ⟨#[b]⟩] w fun e w' => e = .returned (.tuple #[.slice (some ⟨w.heap.size, 0, none⟩) 0 0, .bool false]) ∧ w' = w.alloc (.cells #[] 9) := by
  unfold maxLen at hm
  go_enter Try.func17, Try.ntmps17
  go_wp2
  go_ret2
  exact ⟨rfl, rfl⟩
theorem sspec_sep (s sep : ByteArray) (w : World) (hm : sep.size ≤ maxLen) (h : sep.size ≠ 1) :
    Calls Try.prog 17 #[.string s, .string sep] w fun e w' => e = .returned (.tuple #[.slice (some ⟨w.heap.size, 0, none⟩) 0 0, .bool false]) ∧ w' = w.alloc (.cells #[] 9) := by
  unfold maxLen at hm
  have n1 : ((sep.size : Int) == 1) = false := beq_false_of_ne (by omega)
  have n2 : ((sep.size : Int) != 1) = true := by rw [bne, n1]; rfl
  clear h
  go_enter Try.func17, Try.ntmps17
  go_wp2
  go_ret2
  exact ⟨rfl, rfl⟩
theorem sspec_ok (s : ByteArray) (b : UInt8) (w : World) (hs : s.size ≤ 4000) :
    Calls Try.prog 17 #[.string s, .string ⟨#[b]⟩] w (SplitRes (splitS s b) true w) := by
  have A := Lib.hid (l1Split_any s b w (by omega))
  have hl := (splitS_len s b).1
  have HL := Lib.hid hl
  clear hl
  go_enter Try.func17, Try.ntmps17
  go_wp2_with fail
  refine A.out.mono ?_
  rintro e w1 ⟨v, rfl, hrow, hb⟩
  have HR := Lib.hid hrow
  have HB := Lib.hid hb
  obtain ⟨g, cap, rfl⟩ : ∃ g cap, v = .slice (some ⟨g, 0, none⟩) (splitS s b).length cap := by
    rcases hrow.2 with ⟨_, h0⟩ | ⟨g, cap, _, rfl, _⟩
    · have := HL.out; omega
    · exact ⟨g, cap, rfl⟩
  clear hrow hb
  go_wp2
  go_ret2
  exact res_of_row HL.out HR.out HB.out

/-- Both answer alike: one list, one bool. -/
theorem split_both (s sep : ByteArray) (h1 : s.size ≤ maxLen) (h2 : sep.size ≤ maxLen) : ∃ xs ok, xs.length ≤ 4001 ∧ (∀ w, Calls Try.prog 17 #[.string s, .string sep] w (SplitRes xs ok w)) ∧ (∀ w, Calls Try.prog 10 #[.string s, .string sep] w (SplitRes xs ok w)) := by
  have fin : ∀ (f : Nat) (w : World), (Calls Try.prog f #[.string s, .string sep] w fun e w' => e = .returned (.tuple #[.slice (some ⟨w.heap.size, 0, none⟩) 0 0, .bool false]) ∧ w' = w.alloc (.cells #[] 9)) → Calls Try.prog f #[.string s, .string sep] w (SplitRes [] false w) := fun f w h => h.mono fun e w' ⟨he, hw⟩ => by
    subst he; subst hw; exact res_of_none w
  by_cases hsep : sep.size = 1
  · obtain ⟨b, rfl⟩ : ∃ b, sep = ⟨#[b]⟩ := by
      obtain ⟨⟨l⟩⟩ := sep
      match l, hsep with
      | [b], _ => exact ⟨b, rfl⟩
    by_cases hs : s.size ≤ 4000
    · refine ⟨splitS s b, true, by have := (splitS_len s b).2; omega, fun w => sspec_ok s b w hs, fun w => (split_ok s b hs w).mono ?_⟩
      rintro e w' ⟨v, rfl, hrow, hb⟩
      exact res_of_row (splitS_len s b).1 hrow hb
    · exact ⟨[], false, by simp, fun w => fin 17 w (sspec_long s b w h1 (by omega)), fun w => fin 10 w (split_long s _ w h1 (by omega))⟩
  · refine ⟨[], false, by simp, fun w => fin 17 w (sspec_sep s sep w h2 hsep), fun w => fin 10 w ?_⟩
    by_cases hs : s.size ≤ 4000
    · exact split_sep s sep w h2 hs hsep
    · exact split_long s sep w h1 (by omega)

theorem eq_yes (g1 g2 c1 c2 : Nat) (xs : List ByteArray) (w : World) (hl : xs.length ≤ 1048576) (h1 : Holds w g1 xs) (h2 : Holds w g2 xs) :
    Calls Try.prog 18 #[.slice (some ⟨g1, 0, none⟩) xs.length c1, .slice (some ⟨g2, 0, none⟩) xs.length c2] w fun e w' => e = .returned (.bool true) ∧ ∃ k, w' = w.drewN k := by
  have H1 := Lib.hid h1
  have H2 := Lib.hid h2
  clear h1 h2
  go_enter Try.func18, Try.ntmps18
  go_wp2
  go_loopw [5] (fun v wr => ∃ (i q : Nat), v = .int .i64 i ∧ i ≤ xs.length ∧ wr = w.drewN q) (fun v _ => xs.length - (intOf v).toNat)
  case atStart => exact ⟨0, 0, rfl, Nat.zero_le _, rfl⟩
  case round =>
    obtain ⟨i, q, rfl, hi, rfl⟩ := hrel
    by_cases hlt : i < xs.length
    · have d1 := H1.out i _ (List.getElem?_eq_getElem hlt)
      have d2 := H2.out i _ (List.getElem?_eq_getElem hlt)
      generalize xs[i] = x at d1 d2
      have i0 : (0 : Int) ≤ (i : Int) := by omega
      have i1 : (i : Int) < (xs.length : Int) := by omega
      go_wp2
      go_quiet (fail)
      go_wp2
      go_roundw
      case rel => exact ⟨i + 1, _, by go_num, by omega, rfl⟩
      case measure => simp [intOf]; omega
    · go_wp2
      go_ret
      exact ⟨rfl, q, rfl⟩
end Go.Proofs.Ytppiocjmhlgjoaa
