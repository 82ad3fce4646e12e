/-
  stepsTo of hearing, HeardUntil of the program: how many marks have to be heard. Used by the claims on chapter 11.
-/
import Derived.Test.YthkafalpjokfeaaBhW
import Derived.Test.YthkafalpjokfeaaAnS
namespace Go.Proofs.Ythkafalpjokfeaa
open Go.RowKit
set_option linter.unusedVariables false

theorem below_drH {n : Nat} {w w' : World} (h : Below n w w') (q : Nat) : Below n w (w'.drewN q) := ⟨h.os, h.tape, h.output, h.size, h.block⟩
set_option maxHeartbeats 4000000 in
set_option maxRecDepth 8000 in
theorem steps_any (a : Option Addr) (b o c : Nat) (xs : List ByteArray) (i : Nat) (w : World) (h : ListIn w a b o xs) (hn : xs.length ≤ 10) (hi : i < xs.length) (hx : (atL xs i).size ≤ 5) :
    Calls Try.prog 78 #[.agg #[.slice a xs.length c], .int .i64 i] w fun e w' => e = .returned (.int .i64 ((hrd xs (atL xs i) : Nat) : Int)) ∧ Below w.heap.size w w' := by
  have hl := h.len
  obtain rfl := h.src.1 (by omega)
  have HCe := Lib.hid fun w1 hb => (h.below (w' := w1) hb).src.2 i _ (List.getElem?_eq_getElem hi)
  have HX := Lib.hid (atL_eq (List.getElem?_eq_getElem hi))
  rw [HX.out] at hx ⊢
  have HBh := Lib.hid fun W hb s hs => beh_any (some ⟨b, o, none⟩) b o c xs s W (h.below (w' := W) hb) hn hs
  generalize xs[i] = x at hx HCe ⊢
  clear h HX
  have hd1 := HCe.out _ (below_alloc w (.cells #[.slice (some ⟨b, o, none⟩) xs.length c] 83))
  have HK := Lib.hid (cell_new w (.slice (some ⟨b, o, none⟩) xs.length c) 83)
  have hk0 := HK.out
  have HB0 := Lib.hid (below_alloc w (.cells #[.slice (some ⟨b, o, none⟩) xs.length c] 83))
  have i0 : (0 : Int) ≤ (i : Int) := by omega
  have i1 : (i : Int) < (xs.length : Int) := by omega
  go_enter Try.func78, Try.ntmps78
  go_wp2
  go_loopw [16] (fun v wr => ∃ k : Nat, v = .int .i64 k ∧ k ≤ x.size + 1 ∧ wr.cell? ⟨w.heap.size, 0, none⟩ = some (.slice (some ⟨b, o, none⟩) xs.length c) ∧ Hid (Below w.heap.size w wr) ∧ Hid (∀ j, j < k → behN xs x j ≠ 1)) (fun v _ => x.size + 1 - (intOf v).toNat)
  case atStart => exact ⟨0, rfl, Nat.zero_le _, hk0, HB0, Lib.hid fun j hj => absurd hj (by omega)⟩
  case round =>
    clear hd1 hk0
    obtain ⟨k, rfl, hk, hc, HB, HA⟩ := hrel
    by_cases hlt : k < x.size + 1
    · have HF := Lib.hid (HBh.out wr.drew HB.out.drew (x.extract 0 k) (by simp [ByteArray.size_extract]; omega))
      have HN : Hid (behN xs x k = (behL xs (x.extract 0 k) xs.length).length) := Lib.hid rfl
      have HH := Lib.hid fun h1 => hrd_hit (xs := xs) (x := x) (k := k) (by omega) h1 HA.out
      have hle := behL_le xs (x.extract 0 k) xs.length
      have HA2 : Hid (behN xs x k ≠ 1 → ∀ j, j < k + 1 → behN xs x j ≠ 1) := Lib.hid fun h1 j hj => by
        by_cases e : j = k
        · subst e; exact h1
        · exact HA.out j (by omega)
      rw [HN.out] at HH HA2
      have k0 : (0 : Int) ≤ (k : Int) := by omega
      have k1 : (k : Int) ≤ (x.size : Int) := by omega
      have k2 : (k : Int) < (x.size : Int) + 1 := by omega
      generalize behL xs (x.extract 0 k) xs.length = m at HF HH HA2 hle
      clear HN
      by_cases h1 : m.length = 1
      · have HE := Lib.hid (HH.out h1)
        have h2 : ((m.length : Int) == 1) = true := by rw [h1]; rfl
        clear HH HA2 h1
        go_wp2
        go_region_with (go_at_call 73; refine (HF.out).mono ?_; rintro e w5 ⟨av, cv, rfl, hrow, hb5⟩; have HB5 := Lib.hid (HB.out.drew.trans (hb5.mono HB.out.size)); clear hrow hb5)
        go_wp2
        go_ret
        exact ⟨by rw [HE.out]; rfl, HB5.out⟩
      · have HN2 := Lib.hid (HA2.out h1)
        have h2 : ((m.length : Int) == 1) = false := beq_false_of_ne (by omega)
        clear HH HA2 h1
        go_wp2
        go_region_with (go_at_call 73; refine (HF.out).mono ?_; rintro e w5 ⟨av, cv, rfl, hrow, hb5⟩; have HB5 := Lib.hid (HB.out.drew.trans (hb5.mono HB.out.size)); have hc5 := cell_belowB hb5 hc; clear hrow hb5)
        go_wp2
        go_roundw
        case rel => exact ⟨k + 1, by go_num, by omega, hc5, HB5, HN2⟩
        case measure => simp [intOf]; omega
    · obtain rfl : k = x.size + 1 := by omega
      have HE := Lib.hid (hrd_miss HA.out)
      go_wp2
      go_ret
      exact ⟨by rw [HE.out]; rfl, HB.out⟩

def huR (xs : List ByteArray) (i : Int) : Int := if (marksR xs i).2 = true then ((hrd xs (atL xs i.toNat) : Nat) : Int) else 0
set_option maxHeartbeats 1000000 in
theorem heardUntil_any (a : Option Addr) (b o c : Nat) (xs : List ByteArray) (i : Int) (w : World) (h : ListIn w a b o xs) :
    Calls Try.prog 30 #[.agg #[.slice a xs.length c], .int .i64 i] w fun e w' => e = .returned (.tuple #[.int .i64 (huR xs i), .bool (marksR xs i).2]) ∧ Below w.heap.size w w' := by
  have F := Lib.hid fun W hb => marksOf_any a b o c xs i W (h.below (w' := W) hb)
  have HK := Lib.hid (cell_new w (.slice a xs.length c) 29)
  cases hm : (marksR xs i).2 with
  | false =>
    have HZ : Hid (huR xs i = 0) := Lib.hid (by unfold huR; rw [hm]; rfl)
    rw [hm] at F
    rw [HZ.out]
    generalize (marksR xs i).1 = x at F
    clear hm h HZ
    go_enter Try.func30, Try.ntmps30
    go_wp2_with fail
    refine (F.out _ (below_alloc _ _)).mono ?_
    rintro e w1 ⟨rfl, hb⟩
    have HB := Lib.hid ((below_alloc w (.cells #[.slice a xs.length c] 29)).trans (hb.mono (by simp)))
    clear hb
    go_wp2
    go_ret2
    exact ⟨rfl, HB.out⟩
  | true =>
    have h5 := marks_size hm
    obtain ⟨ht, hi0, hi1, hx⟩ := marksR_at hm
    have hn := ((tableB_iff xs).1 ht).1.2
    have HZ : Hid (huR xs i = ((hrd xs (atL xs i.toNat) : Nat) : Int)) := Lib.hid (by unfold huR; rw [if_pos hm])
    rw [hm] at F
    rw [HZ.out]
    obtain ⟨k, rfl⟩ : ∃ k : Nat, i = (k : Int) := ⟨i.toNat, by omega⟩
    rw [Int.toNat_natCast] at hx ⊢
    rw [hx] at h5
    have HS := Lib.hid fun W hb => steps_any a b o c xs k W (h.below (w' := W) hb) hn (by omega) h5
    generalize (marksR xs k).1 = x at F
    generalize hrd xs (atL xs k) = z at HS ⊢
    clear hm h HZ ht hi0 hi1 hx h5
    go_enter Try.func30, Try.ntmps30
    go_wp2_with fail
    refine (F.out _ (below_alloc _ _)).mono ?_
    rintro e w1 ⟨rfl, hb⟩
    have HB := Lib.hid ((below_alloc w (.cells #[.slice a xs.length c] 29)).trans (hb.mono (by simp)))
    have hc := (hb.cell (p := ⟨w.heap.size, 0, none⟩) (by simp)).trans HK.out
    clear hb
    go_wp2_with fail
    refine (HS.out _ HB.out).mono ?_
    rintro e w2 ⟨rfl, hb⟩
    have HB2 := Lib.hid (HB.out.trans (hb.mono HB.out.size))
    clear hb
    go_wp2
    go_ret2
    exact ⟨rfl, HB2.out⟩
end Go.Proofs.Ythkafalpjokfeaa
