/-
  l6Letter, l11Answer, AnswerTo of the model; both answer alike. Used by the claims on chapter 11.
-/
import Derived.Test.YthkafalpjokfeaaAnW
namespace Go.Proofs.Ythkafalpjokfeaa
open Go.RowKit
set_option linter.unusedVariables false

theorem val_sameL {F : Nat} {args : Array Value} {b v : Bool} {w : World} (h : Calls Try.prog F args w fun e w' => e = .returned (.bool b) ∧ w' = w) (e : b = v) : Calls Try.prog F args w fun e w' => e = .returned (.bool v) ∧ w' = w := by rw [← e]; exact h
theorem sLetr_any (a : Option Addr) (b o c : Nat) (xs : List ByteArray) (i : Int) (w : World) (h : ListIn w a b o xs) :
    Calls Try.prog 75 #[.agg #[.slice a xs.length c], .int .i64 i] w fun e w' => e = .returned (.bool (marksR xs i).2) ∧ Below w.heap.size w w' := by
  have hl := h.len
  have F := Lib.hid fun W hb => stable_any a b o c xs W (h.below (w' := W) hb)
  clear h
  by_cases ht : tableB xs = true
  · have F2 := Lib.hid fun W hb => val_eq (v' := .bool true) (F.out W hb) (by rw [ht])
    have HR : Hid ((decide (0 ≤ i) && decide (i ≤ (xs.length : Int) - 1)) = (marksR xs i).2) := Lib.hid (by
      unfold marksR
      by_cases hc : 0 ≤ i ∧ i < xs.length
      · rw [if_pos ⟨ht, hc⟩, decide_eq_true hc.1, decide_eq_true (show i ≤ (xs.length : Int) - 1 by omega)]; rfl
      · rw [if_neg (fun e => hc e.2), Bool.eq_false_iff, ne_eq, Bool.and_eq_true, decide_eq_true_eq, decide_eq_true_eq]; omega)
    have HIn := Lib.hid fun w => in_any i 0 ((xs.length : Int) - 1) w
    have h1 := ((tableB_iff xs).1 ht).1.1
    clear ht F
    go_enter Try.func75, Try.ntmps75
    go_wp2_with fail
    refine (F2.out _ (below_alloc _ _)).mono ?_
    rintro e w1 ⟨rfl, hb⟩
    have hc1 : w1.cell? ⟨w.heap.size, 0, none⟩ = some (.slice a xs.length c) := (hb.cell (p := ⟨w.heap.size, 0, none⟩) (by simp)).trans (cell_new _ _ _)
    have HB := Lib.hid ((below_alloc w (.cells #[.slice a xs.length c] 29)).trans (hb.mono (by simp)))
    clear hb
    go_wp2_with fail
    refine (HIn.out _).mono ?_
    rintro e w2 ⟨rfl, hww⟩
    obtain rfl := hww.symm
    rw [HR.out]
    go_wp2
    go_ret
    exact ⟨rfl, HB.out⟩
  · have F2 := Lib.hid fun W hb => val_eq (v' := .bool false) (F.out W hb) (by simp [ht])
    have HR : Hid ((marksR xs i).2 = false) := Lib.hid (by unfold marksR; rw [if_neg (fun e => ht e.1)])
    rw [HR.out]
    clear ht F
    go_enter Try.func75, Try.ntmps75
    go_wp2_with fail
    refine (F2.out _ (below_alloc _ _)).mono ?_
    rintro e w1 ⟨rfl, hb⟩
    have HB := Lib.hid ((below_alloc w (.cells #[.slice a xs.length c] 29)).trans (hb.mono (by simp)))
    clear hb
    go_wp2
    go_ret
    exact ⟨rfl, HB.out⟩

theorem sAns_any (a : Option Addr) (b o c : Nat) (xs : List ByteArray) (i p : Nat) (w : World) (h : ListIn w a b o xs) (hi : i < xs.length) (hx : (atL xs i).size ≤ 5) (hp : p ≤ 5) :
    Calls Try.prog 82 #[.agg #[.slice a xs.length c], .int .i64 i, .int .i64 p] w fun e w' => e = .returned (.int .i64 ((ansB (atL xs i) p : Nat) : Int)) ∧ Below w.heap.size w w' := by
  have hl := h.len
  obtain rfl := h.src.1 (by omega)
  have HCe := Lib.hid fun w1 hb => (h.below (w' := w1) hb).src.2 i _ (List.getElem?_eq_getElem hi)
  have HX := Lib.hid (atL_eq (List.getElem?_eq_getElem hi))
  rw [HX.out] at hx ⊢
  generalize xs[i] = x at hx HCe ⊢
  clear h HX
  have hd1 := HCe.out _ (below_alloc w (.cells #[.slice (some ⟨b, o, none⟩) xs.length c] 29))
  have hd2 := cell_new w (.slice (some ⟨b, o, none⟩) xs.length c) 29
  have HB := Lib.hid (below_alloc w (.cells #[.slice (some ⟨b, o, none⟩) xs.length c] 29))
  have i0 : (0 : Int) ≤ (i : Int) := by omega
  have i1 : (i : Int) < (xs.length : Int) := by omega
  by_cases h1 : x.size ≤ p
  · have HR : Hid (ansB x p = 2) := Lib.hid (ansB_far h1)
    have h2 : (x.size : Int) ≤ (p : Int) := by omega
    go_enter Try.func82, Try.ntmps82
    go_wp2
    go_ret
    exact ⟨by rw [HR.out]; rfl, HB.out⟩
  · have hlt : p < x.size := by omega
    have HR := Lib.hid (ansB_at hlt)
    have h2 : ¬ (x.size : Int) ≤ (p : Int) := by omega
    have i2 : (0 : Int) ≤ (p : Int) := by omega
    have i3 : (p : Int) < (x.size : Int) := by omega
    by_cases h3 : x[p] = 45
    · have h4 : ((x[p].toNat : Int) == 45) = true := by rw [h3]; rfl
      go_enter Try.func82, Try.ntmps82
      go_wp2
      go_ret
      exact ⟨by rw [HR.out, if_pos h3]; rfl, HB.out⟩
    · have h4 : ((x[p].toNat : Int) == 45) = false := by
        rw [beq_eq_false_iff_ne]
        intro e
        apply h3
        apply UInt8.toNat_inj.1
        have e2 : (45 : UInt8).toNat = 45 := rfl
        omega
      go_enter Try.func82, Try.ntmps82
      go_wp2
      go_ret
      exact ⟨by rw [HR.out, if_neg h3]; rfl, HB.out⟩
theorem marksR_at {xs : List ByteArray} {i : Int} (h : (marksR xs i).2 = true) : tableB xs = true ∧ 0 ≤ i ∧ i < xs.length ∧ (marksR xs i).1 = atL xs i.toNat := by
  unfold marksR at h ⊢
  by_cases hc : tableB xs = true ∧ 0 ≤ i ∧ i < xs.length
  · rw [if_pos hc]; exact ⟨hc.1, hc.2.1, hc.2.2, rfl⟩
  · rw [if_neg hc] at h; cases h
set_option maxHeartbeats 1000000 in
theorem sAnswerTo_any (a : Option Addr) (b o c : Nat) (xs : List ByteArray) (i p : Int) (w : World) (h : ListIn w a b o xs) :
    Calls Try.prog 34 #[.agg #[.slice a xs.length c], .int .i64 i, .int .i64 p] w fun e w' => e = .returned (.tuple #[.int .i64 (atR xs i p), .bool (atOk xs i p)]) ∧ Below w.heap.size w w' := by
  have F := Lib.hid fun W hb => sLetr_any a b o c xs i W (h.below (w' := W) hb)
  have HK := Lib.hid (cell_new w (.slice a xs.length c) 29)
  have HPI := Lib.hid fun w => in_any p 0 4 w
  have HPE : Hid ((decide (0 ≤ p) && decide (p ≤ 4)) = plB p) := Lib.hid (by unfold plB; congr 1; exact decide_eq_decide.2 (by omega))
  rw [HPE.out] at HPI
  cases hm : (marksR xs i).2 with
  | false =>
    have HR : Hid (atOk xs i p = false) := Lib.hid (by unfold atOk; rw [hm]; rfl)
    have HZ := Lib.hid (at_no HR.out)
    rw [hm] at F
    clear hm h HPI HPE
    go_enter Try.func34, Try.ntmps34
    go_wp2_with fail
    refine (F.out _ (below_alloc _ _)).mono ?_
    rintro e w1 ⟨rfl, hb⟩
    have HB := Lib.hid ((below_alloc w (.cells #[.slice a xs.length c] 29)).trans (hb.mono (by simp)))
    clear hb
    go_wp2
    go_ret2
    exact ⟨by rw [HR.out, HZ.out]; rfl, HB.out⟩
  | true =>
    rw [hm] at F
    cases hp : plB p with
    | false =>
      have HR : Hid (atOk xs i p = false) := Lib.hid (by unfold atOk; rw [hm, hp]; rfl)
      have HZ := Lib.hid (at_no HR.out)
      rw [hp] at HPI
      clear hm hp h HPE
      go_enter Try.func34, Try.ntmps34
      go_wp2_with fail
      refine (F.out _ (below_alloc _ _)).mono ?_
      rintro e w1 ⟨rfl, hb⟩
      have HB := Lib.hid ((below_alloc w (.cells #[.slice a xs.length c] 29)).trans (hb.mono (by simp)))
      clear hb
      go_wp2_with fail
      refine (HPI.out _).mono ?_
      rintro e w2 ⟨rfl, hww⟩
      obtain rfl := hww.symm
      go_wp2
      go_ret2
      exact ⟨by rw [HR.out, HZ.out]; rfl, HB.out⟩
    | true =>
      have HR : Hid (atOk xs i p = true) := Lib.hid (by unfold atOk; rw [hm, hp]; rfl)
      have HZ : Hid (atR xs i p = ((ansB (marksR xs i).1 p.toNat : Nat) : Int)) := Lib.hid (if_pos ⟨hm, hp⟩)
      rw [hp] at HPI
      simp only [plB, Bool.and_eq_true, decide_eq_true_eq] at hp
      obtain ⟨q, rfl⟩ : ∃ q : Nat, p = (q : Int) := ⟨p.toNat, by omega⟩
      have h5 := marks_size hm
      obtain ⟨ht, hi0, hi1, hx⟩ := marksR_at hm
      obtain ⟨k, rfl⟩ : ∃ k : Nat, i = (k : Int) := ⟨i.toNat, by omega⟩
      rw [Int.toNat_natCast] at HZ hx
      rw [hx] at HZ h5
      have HA := Lib.hid fun W hb => sAns_any a b o c xs k q W (h.below (w' := W) hb) (by omega) h5 (by omega)
      generalize ansB (atL xs k) q = z at HA HZ
      clear hm hp h HPE ht hi0 hi1 hx h5
      go_enter Try.func34, Try.ntmps34
      go_wp2_with fail
      refine (F.out _ (below_alloc _ _)).mono ?_
      rintro e w1 ⟨rfl, hb⟩
      have HB := Lib.hid ((below_alloc w (.cells #[.slice a xs.length c] 29)).trans (hb.mono (by simp)))
      have hc := (hb.cell (p := ⟨w.heap.size, 0, none⟩) (by simp)).trans HK.out
      clear hb
      go_wp2_with fail
      refine (HPI.out _).mono ?_
      rintro e w2 ⟨rfl, hww⟩
      obtain rfl := hww.symm
      go_wp2_with fail
      refine (HA.out _ HB.out).mono ?_
      rintro e w3 ⟨rfl, hb⟩
      have HB2 := Lib.hid (HB.out.trans (hb.mono HB.out.size))
      clear hb
      go_wp2
      go_ret2
      exact ⟨by rw [HR.out, HZ.out]; rfl, HB2.out⟩
theorem answerTo_both (xs : List ByteArray) (i p : Int) (hl : xs.length ≤ 1048576) (ht : ∀ x ∈ xs, x.size ≤ 1048576) (_ : (Lit.int .i64 i).wf = true) (_ : (Lit.int .i64 p).wf = true) : ∃ (R0 : Int) (R1 : Bool),
    Hid (∀ W a b o c, ListIn W a b o xs → Calls Try.prog 34 #[.agg #[.slice a xs.length c], .int .i64 i, .int .i64 p] W fun e W' => e = .returned (.tuple #[.int .i64 R0, .bool R1]) ∧ Below W.heap.size W W') ∧
    Hid (∀ W a b o c, ListIn W a b o xs → Calls Try.prog 35 #[.agg #[.slice a xs.length c], .int .i64 i, .int .i64 p] W fun e W' => e = .returned (.tuple #[.int .i64 R0, .bool R1]) ∧ Below W.heap.size W W') :=
  ⟨_, _, fun W a b o c h => sAnswerTo_any a b o c xs i p W h, fun W a b o c h => answerTo_any a b o c xs i p W h⟩
end Go.Proofs.Ythkafalpjokfeaa
