/-
  Contracts of SplitString and JoinStrings, one behind the other, of LessString and of the law's vBig. Used by the claim on FnSplitJoin.
-/
import Derived.Test.YtppiocjmhlgjoaaDrawJW
import Derived.Test.YtppiocjmhlgjoaaSJoinW
import Derived.WalkLawsBesides
namespace Go.Proofs.Ytppiocjmhlgjoaa
open Go.RowKit
set_option linter.unusedVariables false

theorem less_asym : ∀ (s t : List UInt8), Op.bytesLess s t = true → Op.bytesLess t s = false
  | [], [] => by simp [Op.bytesLess]
  | [], _ :: _ => by simp [Op.bytesLess]
  | _ :: _, [] => by simp [Op.bytesLess]
  | a :: s, b :: t => by
    have ih := less_asym s t
    simp only [Op.bytesLess]
    grind
theorem less_i (s t : ByteArray) (r : Bool) (h : Op.bytesLess s.toList t.toList = r) (w : World) : Calls Try.prog 15 #[.string s, .string t] w fun e w' => e = .returned (.bool r) ∧ w' = w := by
  subst h
  go_enter Try.func15, Try.ntmps15
  go_wp2
  go_ret
  exact ⟨rfl, rfl⟩
theorem less_s (s t : ByteArray) (r : Bool) (h : Op.bytesLess s.toList t.toList = r) (w : World) : Calls Try.prog 16 #[.string s, .string t] w fun e w' => e = .returned (.bool r) ∧ w' = w := by
  subst h
  go_enter Try.func16, Try.ntmps16
  go_wp2
  go_ret
  exact ⟨rfl, rfl⟩
theorem big_no (a : Option Addr) (len cap : Nat) (h : len ≤ 65536) (w : World) : Calls Try.prog 8 #[.slice a len cap] w fun e w' => e = .returned (.bool false) ∧ w' = w := by
  go_enter Try.func8, Try.ntmps8
  go_wp2
  go_ret
  exact ⟨by show Ending.returned (.bool (decide ((65536 : Int) < (len : Int)))) = _; rw [decide_eq_false (by omega)], rfl⟩
theorem big_yes (a : Option Addr) (len cap : Nat) (h : 65536 < len) (hm : len ≤ maxLen) (w : World) : Calls Try.prog 8 #[.slice a len cap] w fun e w' => e = .returned (.bool true) ∧ w' = w := by
  unfold maxLen at hm
  go_enter Try.func8, Try.ntmps8
  go_wp2
  go_ret
  exact ⟨by show Ending.returned (.bool (decide ((65536 : Int) < (len : Int)))) = _; rw [decide_eq_true (by omega)], rfl⟩

/-- What SplitString answers to a text that is not too long. -/
def SplitTo (s sep : ByteArray) (w : World) (e : Ending) (w' : World) : Prop := ∃ xs ok a b c, e = .returned (.tuple #[.slice a xs.length c, .bool ok]) ∧ Src w' a b 0 xs ∧ xs.length ≤ c ∧ (sep.size ≠ 1 → xs = [] ∧ ok = false) ∧ (∀ x, sep = ⟨#[x]⟩ → xs = splitS s x ∧ ok = true) ∧ Below w.heap.size w w'
theorem one_byte {sep : ByteArray} (h : sep.size = 1) : ∃ b, sep = ⟨#[b]⟩ := by
  obtain ⟨⟨l⟩⟩ := sep
  match l, h with
  | [b], _ => exact ⟨b, rfl⟩
theorem split_to (s sep : ByteArray) (w : World) (hs : s.size ≤ 4000) (hm : sep.size ≤ maxLen) : Calls Try.prog 10 #[.string s, .string sep] w (SplitTo s sep w) := by
  by_cases h : sep.size = 1
  · obtain ⟨b, rfl⟩ := one_byte h
    refine (split_ok s b hs w).mono ?_
    rintro e w' ⟨v, rfl, hrow, hb⟩
    obtain ⟨a, bb, c, rfl, h1, h2⟩ := src_of_row hrow rfl
    exact ⟨_, true, a, bb, c, rfl, h1, h2, fun h => absurd rfl h, fun x e => by injection e with e; injection e with e; injection e with e; subst e; exact ⟨rfl, rfl⟩, hb⟩
  · refine (split_sep s sep w hm hs h).mono ?_
    rintro e w' ⟨rfl, rfl⟩
    exact ⟨[], false, _, 0, 0, rfl, ⟨fun h => by simp at h, fun j x hx => by simp at hx⟩, Nat.le_refl _, fun _ => ⟨rfl, rfl⟩, fun x e => by subst e; exact absurd rfl h, (Below.refl _ _).alloc (Nat.le_refl _) _⟩

/-- What has been split is joined again. -/
theorem back_ok (s : ByteArray) (x : UInt8) (a : Option Addr) (b c : Nat) (w : World) (hs : s.size ≤ 4000) (hsrc : Src w a b 0 (splitS s x)) (hc : (splitS s x).length ≤ c) :
    Calls Try.prog 12 #[.slice a (splitS s x).length c, .string ⟨#[x]⟩] w fun e w' => e = .returned (.tuple #[.string s, .bool true]) ∧ Below w.heap.size w w' := by
  have h0 := (splitS_len s x).1
  have hne : splitS s x ≠ [] := by intro e; rw [e] at h0; simp at h0
  have ht := joined_len (splitS s x) x hne
  rw [splitS_joined] at ht
  have hsz : s.data.toList.length = s.size := by simp
  refine (join_ok a b 0 c _ x w hsrc.1 hsrc.2 (src_lt hsrc (by omega)) hc (by omega) (by omega) (splitS_has s x)).mono ?_
  rintro e w' ⟨rfl, hb⟩
  rw [splitS_joined]
  exact ⟨by simp, hb⟩
end Go.Proofs.Ytppiocjmhlgjoaa
