/-
  Contracts of FormatInt, ParseInt and AppendChecksum, of the program and of the model in one form, and what VerifyChecksum answers to a sealed text with one byte changed. Used by the claim on FnStrings.
-/
import Derived.Test.YtppiocjmhlgjoaaDoorDrawsW
import Derived.Test.YtppiocjmhlgjoaaDoorPickL
import Derived.Test.YtppiocjmhlgjoaaDoorSent
namespace Go.Proofs.YtppiocjmhlgjoaaDoor
open Go.RowKit
set_option linter.unusedVariables false

theorem parsed_ex (l : List UInt8) : ∃ r, Parsed l r := by
  by_cases h : ∃ v, InDec v ∧ Lib.itoa v = l
  · obtain ⟨v, hv⟩ := h
    exact ⟨some v, hv⟩
  · exact ⟨none, fun v hv e => h ⟨v, hv, e⟩⟩

def SaidS (s : ByteArray) (ok : Bool) (w : World) (e : Ending) (w' : World) : Prop := e = .returned (.tuple #[.string s, .bool ok]) ∧ Below w.heap.size w w'
def SaidI (n : Int) (ok : Bool) (w : World) (e : Ending) (w' : World) : Prop := e = .returned (.tuple #[.int .i64 n, .bool ok]) ∧ Below w.heap.size w w'

/-- FormatInt: both answer alike; what is answered with true is the text of the number. -/
theorem fmt_both (n : Int) : ∃ s ok, s.size ≤ 20 ∧ (ok = true → Parsed s.data.toList (some n)) ∧ (∀ w, Calls Tryd.prog 11 #[.int .i64 n] w (SaidS s ok w)) ∧ (∀ w, Pow w → Calls Tryd.prog 10 #[.int .i64 n] w (SaidS s ok w)) := by
  by_cases h : InDec n
  · refine ⟨⟨(Lib.itoa n).toArray⟩, true, ?_, fun _ => ⟨h, rfl⟩, fun w => specFormat_yes n h.1 h.2 w, fun w hP => implFormat_yes n h.1 h.2 w hP⟩
    have := itoa_len n h
    show (Lib.itoa n).toArray.size ≤ 20
    simp; omega
  · have h2 : n < -999999 ∨ 999999 < n := by unfold InDec at h; omega
    exact ⟨⟨#[]⟩, false, by decide, fun e => by simp at e, fun w => specFormat_no n h2 w, fun w _ => implFormat_no n h2 w⟩

/-- ParseInt: both answer alike. -/
theorem parse_both (t : ByteArray) (ht : t.size ≤ 1048576) (r : Option Int) (hr : Parsed t.data.toList r) : (∀ w, Calls Tryd.prog 14 #[.string t] w (SaidI (r.getD 0) r.isSome w)) ∧ (∀ w, Pow w → Sents w → Calls Tryd.prog 13 #[.string t] w (SaidI (r.getD 0) r.isSome w)) := by
  refine ⟨fun w => ?_, fun w hP hS => implParse t ht w hP hS r hr⟩
  refine (specParse t (by unfold maxLen; omega) w).mono ?_
  rintro e w' ⟨r', rfl, hp, hb⟩
  obtain rfl := hp.same hr
  exact ⟨rfl, hb⟩

/-- AppendChecksum: both answer alike. -/
theorem seal_yes (s : ByteArray) (h : CanSeal s) : (∀ w, Calls Tryd.prog 17 #[.string s] w (SaidS ⟨(sealed s.data.toList).toArray⟩ true w)) ∧ (∀ w, Pow w → Calls Tryd.prog 16 #[.string s] w (SaidS ⟨(sealed s.data.toList).toArray⟩ true w)) :=
  ⟨fun w => (specSeal_yes s w h).mono fun e w' ⟨he, k, hw⟩ => ⟨he, by rw [hw]; exact below_drewN _ _⟩, fun w hP => implSeal_yes s w hP h⟩
theorem seal_no (s : ByteArray) (hm : s.size ≤ maxLen) (h : ¬ CanSeal s) : (∀ w, Calls Tryd.prog 17 #[.string s] w (SaidS ⟨#[]⟩ false w)) ∧ (∀ w, Pow w → Calls Tryd.prog 16 #[.string s] w (SaidS ⟨#[]⟩ false w)) :=
  ⟨fun w => (specSeal_no s w hm h).mono fun e w' ⟨he, k, hw⟩ => ⟨he, by rw [hw]; exact below_drewN _ _⟩, fun w hP => implSeal_no s w hP hm h⟩

/-- A sealed text is opened; with one byte changed it is not. -/
theorem ver_back (x y : ByteArray) (h : CanSeal x) (hy : y = ⟨(sealed x.data.toList).toArray⟩) (w : World) (hP : Pow w) : Calls Tryd.prog 18 #[.string y] w (SaidS x true w) := by
  subst hy
  have hz : (⟨(sealed x.data.toList).toArray⟩ : ByteArray).size ≤ 4000 := by
    show (sealed x.data.toList).toArray.size ≤ 4000
    simpa using h.2.2
  exact implVerify _ w hP (by unfold maxLen; omega) (some x) ⟨h, rfl⟩
theorem ver_changed (x : ByteArray) (l : List UInt8) (k : Nat) (c : UInt8) (h : CanSeal x) (hl : l = sealed x.data.toList) (hk : k < l.length) (hc : l[k] ≠ c) (w : World) (hP : Pow w) : Calls Tryd.prog 18 #[.string ⟨(l.set k c).toArray⟩] w (SaidS ⟨#[]⟩ false w) := by
  have hz : (⟨(l.set k c).toArray⟩ : ByteArray).size ≤ 4000 := by
    show (l.set k c).toArray.size ≤ 4000
    have := h.2.2
    simp [hl]; exact this
  refine implVerify _ w hP (by unfold maxLen; omega) none fun t ht e => ?_
  have e2 : sealed t.data.toList = l.set k c := e
  have e3 : l = l.take k ++ l[k] :: l.drop (k + 1) := by
    rw [← List.drop_eq_getElem_cons hk, List.take_append_drop]
  rw [List.set_eq_take_append_cons_drop, if_pos hk] at e2
  exact changed x.data.toList t.data.toList _ _ _ _ h.2.1 ht.2.1 hc (hl ▸ e3) e2
end Go.Proofs.YtppiocjmhlgjoaaDoor
