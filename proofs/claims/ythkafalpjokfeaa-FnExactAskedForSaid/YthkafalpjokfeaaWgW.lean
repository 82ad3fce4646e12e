/-
  areWeights, areWeightsFor of the program, l8Weights, l8Fits of the model. Used by the claims on chapter 8.
-/
import Derived.Test.YthkafalpjokfeaaWgL
import Derived.Test.YthkafalpjokfeaaIntW
import Derived.Test.YthkafalpjokfeaaIsTableB
import Derived.Test.YthkafalpjokfeaaBfW
namespace Go.Proofs.Ythkafalpjokfeaa
open Go.RowKit
set_option linter.unusedVariables false

theorem below_dr {n : Nat} {w w' : World} (h : Below n w w') (q : Nat) : Below n w (w'.drewN q) := ⟨h.os, h.tape, h.output, h.size, h.block⟩
theorem areWeights_any (a : Option Addr) (g c : Nat) (l : List Int) (w : World) (hs : SrcV w a g (intz l)) (hl : l.length ≤ 1048576) :
    Calls Try.prog 129 #[.slice a l.length c] w fun e w' => e = .returned (.bool (wtB l)) ∧ w' = w := by
  have HX := Lib.hid hs.1
  have HC := Lib.hid hs.2
  clear hs
  by_cases h1 : l.length < 1
  · have HR : Hid (wtB l = false) := Lib.hid (by
      have : ¬ 1 ≤ l.length := by omega
      simp [wtB, this])
    rw [HR.out]
    go_enter Try.func129, Try.ntmps129
    go_wp2
    go_ret
    exact ⟨rfl, rfl⟩
  · by_cases h2 : 10 < l.length
    · have HR : Hid (wtB l = false) := Lib.hid (by
        have : ¬ l.length ≤ 10 := by omega
        simp [wtB, this])
      rw [HR.out]
      go_enter Try.func129, Try.ntmps129
      go_wp2
      go_ret
      exact ⟨rfl, rfl⟩
    · have HL : Hid ((decide (1 ≤ l.length) && decide (l.length ≤ 10)) = true) := Lib.hid (by simp; omega)
      go_enter Try.func129, Try.ntmps129
      go_wp2
      go_loopw [15] (fun v wr => ∃ k : Nat, v = .int .i64 k ∧ k ≤ l.length ∧ wr = w ∧ Hid (∀ j (hj : j < l.length), j < k → okW l[j] = true)) (fun v _ => l.length - (intOf v).toNat)
      case atStart => exact ⟨0, rfl, Nat.zero_le _, rfl, Lib.hid fun j _ hj => absurd hj (by omega)⟩
      case round =>
        obtain ⟨k, rfl, hk, hwr, HA⟩ := hrel
        subst hwr
        by_cases hlt : k < l.length
        · obtain rfl := HX.out (by rw [intz_len]; omega)
          have d1 := HC.out k _ (intz_at hlt)
          have HW := Lib.hid (fun h => wtB_no hlt h)
          have HN : Hid (okW l[k] = true → ∀ j (hj : j < l.length), j < k + 1 → okW l[j] = true) := Lib.hid fun h j hj hjk => by
            by_cases e : j = k
            · subst e; exact h
            · exact HA.out j hj (by omega)
          generalize l[k] = x at d1 HW HN
          by_cases h3 : x < 0
          · have HF : Hid (wtB l = false) := Lib.hid (HW.out (by simp [okW]; omega))
            go_wp2
            go_ret
            exact ⟨by rw [HF.out]; rfl, rfl⟩
          · by_cases h4 : 99 < x
            · have HF : Hid (wtB l = false) := Lib.hid (HW.out (by simp [okW]; omega))
              go_wp2
              go_ret
              exact ⟨by rw [HF.out]; rfl, rfl⟩
            · have HN2 := Lib.hid (HN.out (by simp [okW]; omega))
              go_wp2
              go_roundw
              case rel => exact ⟨k + 1, by go_num, by omega, by trivial, HN2⟩
              case measure => simp [intOf]; omega
        · have HF : Hid (wtB l = true) := Lib.hid (by
            rw [wtB_all (fun j hj => HA.out j hj (by omega))]; exact HL.out)
          go_wp2
          go_ret
          exact ⟨by rw [HF.out]; rfl, rfl⟩

theorem areWFor_any (a : Option Addr) (b o c : Nat) (xs : List ByteArray) (a1 : Option Addr) (g1 c1 : Nat) (l : List Int) (w : World) (h : ListIn w a b o xs) (hs : SrcV w a1 g1 (intz l)) (hl : l.length ≤ 1048576) :
    Calls Try.prog 112 #[.agg #[.slice a xs.length c], .slice a1 l.length c1] w fun e w' => e = .returned (.bool (fitB xs l)) ∧ Below w.heap.size w w' := by
  have hxl := h.len
  have F := Lib.hid fun ob => isTable_any a b o c xs (w.alloc ob) (h.below (below_alloc w ob))
  have G := Lib.hid fun W hb => areWeights_any a1 g1 c1 l W (hs.below (w' := W) hb) hl
  have HK := Lib.hid (cell_new w (.slice a xs.length c) 29)
  clear h hs
  by_cases ht : tableB xs = true
  · have F2 := Lib.hid fun ob => val_eq (v' := .bool true) (F.out ob) (by rw [ht])
    by_cases hw : wtB l = true
    · have G2 := Lib.hid fun W hb => val_eq (v' := .bool true) (G.out W hb) (by rw [hw])
      have HR : Hid (fitB xs l = ((l.length : Int) == (xs.length : Int))) := Lib.hid (by rw [Bool.eq_iff_iff]; simp [fitB, ht, hw]; omega)
      clear F G ht hw
      go_enter Try.func112, Try.ntmps112
      go_wp2_with fail
      refine (F2.out _).mono ?_
      rintro e w1 ⟨rfl, hb⟩
      have HB := Lib.hid ((below_alloc w (.cells #[.slice a xs.length c] 29)).trans (hb.mono (by simp)))
      have hc := (hb.cell (p := ⟨w.heap.size, 0, none⟩) (by simp)).trans HK.out
      clear hb
      go_wp2_with fail
      refine (G2.out _ HB.out).mono ?_
      rintro e w2 ⟨rfl, hww⟩
      obtain rfl := hww.symm
      go_wp2
      go_ret
      exact ⟨by rw [HR.out]; rfl, HB.out⟩
    · have G2 := Lib.hid fun W hb => val_eq (v' := .bool false) (G.out W hb) (by simp [hw])
      have HR : Hid (fitB xs l = false) := Lib.hid (by simp [fitB, hw])
      clear F G ht hw
      go_enter Try.func112, Try.ntmps112
      go_wp2_with fail
      refine (F2.out _).mono ?_
      rintro e w1 ⟨rfl, hb⟩
      have HB := Lib.hid ((below_alloc w (.cells #[.slice a xs.length c] 29)).trans (hb.mono (by simp)))
      have hc := (hb.cell (p := ⟨w.heap.size, 0, none⟩) (by simp)).trans HK.out
      clear hb
      go_wp2_with fail
      refine (G2.out _ HB.out).mono ?_
      rintro e w2 ⟨rfl, hww⟩
      obtain rfl := hww.symm
      go_wp2
      go_ret
      exact ⟨by rw [HR.out]; rfl, HB.out⟩
  · have F2 := Lib.hid fun ob => val_eq (v' := .bool false) (F.out ob) (by simp [ht])
    have HR : Hid (fitB xs l = false) := Lib.hid (by simp [fitB, ht])
    clear F G ht
    go_enter Try.func112, Try.ntmps112
    go_wp2_with fail
    refine (F2.out _).mono ?_
    rintro e w1 ⟨rfl, hb⟩
    have HB := Lib.hid ((below_alloc w (.cells #[.slice a xs.length c] 29)).trans (hb.mono (by simp)))
    have hc := (hb.cell (p := ⟨w.heap.size, 0, none⟩) (by simp)).trans HK.out
    clear hb
    go_wp2
    go_ret
    exact ⟨by rw [HR.out]; rfl, HB.out⟩

/-! ### The model's -/
theorem sWeights_any (a : Option Addr) (g c : Nat) (l : List Int) (w : World) (hs : SrcV w a g (intz l)) (hl : l.length ≤ 1048576) :
    Calls Try.prog 111 #[.slice a l.length c] w fun e w' => e = .returned (.bool (wtB l)) ∧ w' = w := by
  have HX := Lib.hid hs.1
  have HC := Lib.hid hs.2
  have HI := Lib.hid fun w => in_any l.length 1 10 w
  have HI2 := Lib.hid fun x w => in_any x 0 99 w
  clear hs
  go_enter Try.func111, Try.ntmps111
  go_wp2
  go_loopw [3] (fun v wr => ∃ k : Nat, v = .int .i64 k ∧ k ≤ l.length ∧ k ≤ 11 ∧ wr = w ∧ Hid (∀ j (hj : j < l.length), j < k → okW l[j] = true)) (fun v _ => l.length - (intOf v).toNat)
  case atStart => exact ⟨0, rfl, Nat.zero_le _, by omega, rfl, Lib.hid fun j _ hj => absurd hj (by omega)⟩
  case round =>
    obtain ⟨k, rfl, hk, hk11, hwr, HA⟩ := hrel
    subst hwr
    have HEnd : Hid ((l.length ≤ k ∨ 10 < l.length) → wtB l = (decide ((1 : Int) ≤ (l.length : Int)) && decide ((l.length : Int) ≤ 10))) := Lib.hid fun h => by
      rcases h with h | h
      · rw [wtB_all (fun j hj => HA.out j hj (by omega))]
        congr 1
        · exact decide_eq_decide.2 (by omega)
        · exact decide_eq_decide.2 (by omega)
      · have h1 : ¬ l.length ≤ 10 := by omega
        have h2 : ¬ (l.length : Int) ≤ 10 := by omega
        simp [wtB, h1, h2]
    by_cases hlt : k < l.length
    · by_cases h10 : k ≤ 10
      · obtain rfl := HX.out (by rw [intz_len]; omega)
        have d1 := HC.out k _ (intz_at hlt)
        have HW := Lib.hid (fun h => wtB_no hlt h)
        have HN : Hid (okW l[k] = true → ∀ j (hj : j < l.length), j < k + 1 → okW l[j] = true) := Lib.hid fun h j hj hjk => by
          by_cases e : j = k
          · subst e; exact h
          · exact HA.out j hj (by omega)
        generalize l[k] = x at d1 HW HN
        have i0 : (0 : Int) ≤ (k : Int) := by omega
        have i1 : (k : Int) < (l.length : Int) := by omega
        have j1 : (k : Int) ≤ 10 := by omega
        cases hx : okW x
        · have HF := Lib.hid (HW.out hx)
          have HV := Lib.hid fun w => val_eq (v' := .bool false) (HI2.out x w) (by congr 1)
          clear hx
          go_wp2_with fail
          refine (HV.out _).mono ?_
          rintro e w2 ⟨rfl, hww⟩
          obtain rfl := hww.symm
          go_wp2
          go_ret
          exact ⟨by rw [HF.out]; rfl, rfl⟩
        · have HN2 := Lib.hid (HN.out hx)
          have HV := Lib.hid fun w => val_eq (v' := .bool true) (HI2.out x w) (by congr 1)
          clear hx
          go_wp2_with fail
          refine (HV.out _).mono ?_
          rintro e w2 ⟨rfl, hww⟩
          obtain rfl := hww.symm
          go_wp2
          go_roundw
          case rel => exact ⟨k + 1, by go_num, by omega, by omega, by trivial, HN2⟩
          case measure => simp [intOf]; omega
      · have HF := Lib.hid (HEnd.out (.inr (by omega)))
        have j1 : ¬ (k : Int) ≤ 10 := by omega
        go_wp2_with fail
        refine (HI.out _).mono ?_
        rintro e w2 ⟨rfl, hww⟩
        obtain rfl := hww.symm
        go_wp2
        go_ret
        exact ⟨by rw [HF.out]; rfl, rfl⟩
    · have HF := Lib.hid (HEnd.out (.inl (by omega)))
      go_wp2_with fail
      refine (HI.out _).mono ?_
      rintro e w2 ⟨rfl, hww⟩
      obtain rfl := hww.symm
      go_wp2
      go_ret
      exact ⟨by rw [HF.out]; rfl, rfl⟩

end Go.Proofs.Ythkafalpjokfeaa
