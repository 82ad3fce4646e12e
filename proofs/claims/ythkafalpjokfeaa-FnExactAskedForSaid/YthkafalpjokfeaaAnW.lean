/-
  answerOf, isPlace, AnswerTo of the program; l11Answer, AnswerTo of the model. Used by the claims on chapter 11.
-/
import Derived.Test.YthkafalpjokfeaaLtD
import Derived.Test.YthkafalpjokfeaaMarkB
import Derived.Deep.RegionWith
namespace Go.Proofs.Ythkafalpjokfeaa
open Go.RowKit
set_option linter.unusedVariables false

def plB (p : Int) : Bool := decide (0 ≤ p) && decide (p < 5)
theorem isPlace_any (p : Int) (w : World) : Calls Try.prog 83 #[.int .i64 p] w fun e w' => e = .returned (.bool (plB p)) ∧ w' = w := by
  by_cases h1 : 0 ≤ p
  · by_cases h2 : p < 5
    · go_enter Try.func83, Try.ntmps83
      go_wp2
      go_ret
      exact ⟨by unfold plB; simp [h1, h2], rfl⟩
    · go_enter Try.func83, Try.ntmps83
      go_wp2
      go_ret
      exact ⟨by unfold plB; simp [h1, h2], rfl⟩
  · go_enter Try.func83, Try.ntmps83
    go_wp2
    go_ret
    exact ⟨by unfold plB; rw [decide_eq_false (show ¬ 0 ≤ p by omega)]; rfl, rfl⟩
theorem ansB_far {x : ByteArray} {p : Nat} (h : x.size ≤ p) : ansB x p = 2 := if_pos h
theorem ansB_at {x : ByteArray} {p : Nat} (h : p < x.size) : ansB x p = if x[p] = 45 then 1 else 0 := by
  unfold ansB
  rw [if_neg (by omega)]
  have e : (bl x)[p]? = some x[p] := by
    rw [List.getElem?_eq_getElem (by rw [bl_len]; exact h)]; rfl
  rw [e]
  simp
theorem answerOf_any (x : ByteArray) (p : Nat) (w : World) (hx : x.size ≤ 5) (hp : p ≤ 5) : Calls Try.prog 84 #[.string x, .int .i64 p] w fun e w' => e = .returned (.int .i64 ((ansB x p : Nat) : Int)) ∧ w' = w := by
  by_cases h1 : x.size ≤ p
  · have HR : Hid (ansB x p = 2) := Lib.hid (ansB_far h1)
    have h2 : (x.size : Int) ≤ (p : Int) := by omega
    go_enter Try.func84, Try.ntmps84
    go_wp2
    go_ret
    exact ⟨by rw [HR.out]; rfl, rfl⟩
  · have hlt : p < x.size := by omega
    have HR := Lib.hid (ansB_at hlt)
    have h2 : ¬ (x.size : Int) ≤ (p : Int) := by omega
    have i0 : (0 : Int) ≤ (p : Int) := by omega
    have i1 : (p : Int) < (x.size : Int) := by omega
    by_cases h3 : x[p] = 45
    · have h4 : ((x[p].toNat : Int) == 45) = true := by rw [h3]; rfl
      go_enter Try.func84, Try.ntmps84
      go_wp2
      go_ret
      exact ⟨by rw [HR.out, if_pos h3]; rfl, rfl⟩
    · have h4 : ((x[p].toNat : Int) == 45) = false := by
        rw [beq_eq_false_iff_ne]
        intro e
        apply h3
        apply UInt8.toNat_inj.1
        have e2 : (45 : UInt8).toNat = 45 := rfl
        omega
      go_enter Try.func84, Try.ntmps84
      go_wp2
      go_ret
      exact ⟨by rw [HR.out, if_neg h3]; rfl, rfl⟩

/-! ### AnswerTo -/
def atR (xs : List ByteArray) (i p : Int) : Int := if (marksR xs i).2 = true ∧ plB p = true then ((ansB (marksR xs i).1 p.toNat : Nat) : Int) else 0
def atOk (xs : List ByteArray) (i p : Int) : Bool := (marksR xs i).2 && plB p
theorem at_no {xs : List ByteArray} {i p : Int} (h : atOk xs i p = false) : atR xs i p = 0 := if_neg (fun e => by rw [atOk, e.1, e.2] at h; cases h)
theorem marks_size {xs : List ByteArray} {i : Int} (h : (marksR xs i).2 = true) : (marksR xs i).1.size ≤ 5 := by
  unfold marksR at h ⊢
  by_cases hc : tableB xs = true ∧ 0 ≤ i ∧ i < xs.length
  · rw [if_pos hc]
    have hk : i.toNat < xs.length := by omega
    show (xs.getD i.toNat ⟨#[]⟩).size ≤ 5
    rw [List.getD_eq_getElem?_getD, List.getElem?_eq_getElem hk]
    have := ((tableB_iff xs).1 hc.1).2.1 _ (List.getElem_mem hk)
    simp only [marksL, Bool.and_eq_true, decide_eq_true_eq, bl_len] at this
    exact this.1.2
  · rw [if_neg hc] at h; cases h
set_option maxHeartbeats 1000000 in
theorem answerTo_any (a : Option Addr) (b o c : Nat) (xs : List ByteArray) (i p : Int) (w : World) (h : ListIn w a b o xs) :
    Calls Try.prog 35 #[.agg #[.slice a xs.length c], .int .i64 i, .int .i64 p] w fun e w' => e = .returned (.tuple #[.int .i64 (atR xs i p), .bool (atOk xs i p)]) ∧ Below w.heap.size w w' := by
  have F := Lib.hid fun W hb => marksOf_any a b o c xs i W (h.below (w' := W) hb)
  have HP := Lib.hid fun w => isPlace_any p w
  clear h
  cases hm : (marksR xs i).2 with
  | false =>
    have HR : Hid (atOk xs i p = false) := Lib.hid (by unfold atOk; rw [hm]; rfl)
    have HZ := Lib.hid (at_no HR.out)
    rw [hm] at F
    generalize (marksR xs i).1 = x at F
    clear hm
    go_enter Try.func35, Try.ntmps35
    go_wp2_with fail
    refine (F.out _ (below_alloc _ _)).mono ?_
    rintro e w1 ⟨rfl, hb⟩
    have HB := Lib.hid ((below_alloc w (.cells #[.slice a xs.length c] 29)).trans (hb.mono (by simp)))
    clear hb
    go_wp2
    go_ret2
    exact ⟨by rw [HR.out, HZ.out]; rfl, HB.out⟩
  | true =>
    have h5 := marks_size hm
    rw [hm] at F
    cases hp : plB p with
    | false =>
      have HR : Hid (atOk xs i p = false) := Lib.hid (by unfold atOk; rw [hm, hp]; rfl)
      have HZ := Lib.hid (at_no HR.out)
      have HP2 := Lib.hid fun w => val_eq (v' := .bool false) (HP.out w) (by rw [hp])
      generalize (marksR xs i).1 = x at F h5
      clear hm hp
      go_enter Try.func35, Try.ntmps35
      go_wp2_with fail
      refine (F.out _ (below_alloc _ _)).mono ?_
      rintro e w1 ⟨rfl, hb⟩
      have HB := Lib.hid ((below_alloc w (.cells #[.slice a xs.length c] 29)).trans (hb.mono (by simp)))
      clear hb
      go_wp2_with fail
      refine (HP2.out _).mono ?_
      rintro e w2 ⟨rfl, hww⟩
      obtain rfl := hww.symm
      go_wp2
      go_ret2
      exact ⟨by rw [HR.out, HZ.out]; rfl, HB.out⟩
    | true =>
      have HR : Hid (atOk xs i p = true) := Lib.hid (by unfold atOk; rw [hm, hp]; rfl)
      have HZ : Hid (atR xs i p = ((ansB (marksR xs i).1 p.toNat : Nat) : Int)) := Lib.hid (if_pos ⟨hm, hp⟩)
      have HP2 := Lib.hid fun w => val_eq (v' := .bool true) (HP.out w) (by rw [hp])
      simp only [plB, Bool.and_eq_true, decide_eq_true_eq] at hp
      obtain ⟨q, rfl⟩ : ∃ q : Nat, p = (q : Int) := ⟨p.toNat, by omega⟩
      rw [Int.toNat_natCast] at HZ
      generalize (marksR xs i).1 = x at F h5 HZ
      have HA := Lib.hid fun w => answerOf_any x q w h5 (by omega)
      generalize ansB x q = z at HA HZ
      clear hm hp
      go_enter Try.func35, Try.ntmps35
      go_wp2_with fail
      refine (F.out _ (below_alloc _ _)).mono ?_
      rintro e w1 ⟨rfl, hb⟩
      have HB := Lib.hid ((below_alloc w (.cells #[.slice a xs.length c] 29)).trans (hb.mono (by simp)))
      clear hb
      go_wp2_with fail
      refine (HP2.out _).mono ?_
      rintro e w2 ⟨rfl, hww⟩
      obtain rfl := hww.symm
      go_wp2_with fail
      refine (HA.out _).mono ?_
      rintro e w3 ⟨rfl, hww⟩
      obtain rfl := hww.symm
      go_wp2
      go_ret2
      exact ⟨by rw [HR.out, HZ.out]; rfl, HB.out⟩
end Go.Proofs.Ythkafalpjokfeaa
