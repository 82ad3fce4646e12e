/-
  l11Letters, AreLetters of the model; both answer alike. Used by the claims on chapter 11.
-/
import Derived.Test.YthkafalpjokfeaaLtW
import Derived.Deep.RegionWith
namespace Go.Proofs.Ythkafalpjokfeaa
open Go.RowKit
set_option linter.unusedVariables false

set_option maxHeartbeats 2000000 in
theorem sLt_any (a : Option Addr) (b o c : Nat) (xs : List ByteArray) (a1 : Option Addr) (g1 c1 : Nat) (l : List Int) (w : World) (hn : xs.length ≤ 10) (hs : SrcV w a1 g1 (intz l)) (hl : l.length ≤ 1048576) :
    Calls Try.prog 65 #[.agg #[.slice a xs.length c], .slice a1 l.length c1] w fun e w' => e = .returned (.bool (ltB xs.length l)) ∧ Below w.heap.size w w' := by
  have HX := Lib.hid hs.1
  have HC := Lib.hid fun W (hb : Below w.heap.size w W) => (hs.below hb).2
  have HK := Lib.hid (cell_new w (.slice a xs.length c) 29)
  have HB0 := Lib.hid (below_alloc w (.cells #[.slice a xs.length c] 29))
  have HI := Lib.hid fun w => in_any l.length 1 10 w
  have HI2 := Lib.hid fun x w => in_any x 0 ((xs.length : Int) - 1) w
  clear hs
  go_enter Try.func65, Try.ntmps65
  go_wp2
  go_loopw [5] (fun v wr => ∃ k : Nat, v = .int .i64 k ∧ k ≤ l.length ∧ k ≤ 11 ∧ wr.cell? ⟨w.heap.size, 0, none⟩ = some (.slice a xs.length c) ∧ Hid (Below w.heap.size w wr) ∧ Hid (∀ j, j < k → okL xs.length l j = true)) (fun v _ => l.length - (intOf v).toNat)
  case atStart => exact ⟨0, rfl, Nat.zero_le _, by omega, HK.out, HB0, Lib.hid fun j hj => absurd hj (by omega)⟩
  case round =>
    obtain ⟨k, rfl, hk, hk11, hc, HB, HA⟩ := hrel
    have HEnd : Hid (l.length ≤ k → ltB xs.length l = (decide ((1 : Int) ≤ (l.length : Int)) && decide ((l.length : Int) ≤ 10))) := Lib.hid fun h => by
      have h2 := okL_len (k := l.length) (fun j hj => HA.out j (by omega))
      rw [ltB_all (fun j hj => HA.out j (by omega)), decide_eq_true (p := (l.length : Int) ≤ 10) (by omega), Bool.and_true]
      exact decide_eq_decide.2 (by omega)
    by_cases hlt : k < l.length
    · by_cases h10 : k ≤ 10
      · obtain rfl := HX.out (by rw [intz_len]; omega)
        have d1 := HC.out _ HB.out k _ (intz_at hlt)
        have HO := Lib.hid (fun h => ltB_no (n := xs.length) hlt h)
        have HS := Lib.hid (fun h => ok_step (n := xs.length) (l := l) HA.out h)
        have HV : Hid (okL xs.length l k = (decide (0 ≤ l[k]) && decide (l[k] ≤ (xs.length : Int) - 1) && (decide (k = 0) || decide (l.getD (k - 1) 0 < l[k])))) := Lib.hid (by
          unfold okL
          rw [getD_at hlt]
          congr 2
          exact decide_eq_decide.2 (by omega))
        have i0 : (0 : Int) ≤ (k : Int) := by omega
        have i1 : (k : Int) < (l.length : Int) := by omega
        have j1 : (k : Int) ≤ 10 := by omega
        rcases Nat.eq_zero_or_pos k with hk0 | hk0
        · subst hk0
          generalize l[0] = x at d1 HV
          cases hx : (decide (0 ≤ x) && decide (x ≤ (xs.length : Int) - 1))
          · have HF := Lib.hid (HO.out (by rw [HV.out, hx]; rfl))
            have HW := Lib.hid fun w => val_eq (v' := .bool false) (HI2.out x w) (by rw [hx])
            clear hx
            go_wp2
            go_quiet ((go_at_call 81; exact Calls.quiet_of_same (HW.out _)))
            go_wp2
            go_ret
            exact ⟨by rw [HF.out]; rfl, below_dr HB.out _⟩
          · have HN2 := Lib.hid (HS.out (by rw [HV.out, hx]; rfl))
            have HW := Lib.hid fun w => val_eq (v' := .bool true) (HI2.out x w) (by rw [hx])
            clear hx
            go_wp2
            go_quiet ((go_at_call 81; exact Calls.quiet_of_same (HW.out _)))
            go_wp2
            go_roundw
            case rel => exact ⟨1, by go_num, by omega, by omega, hc, Lib.hid (below_dr HB.out _), HN2⟩
            case measure => simp [intOf]; omega
        · obtain ⟨k, rfl⟩ : ∃ k', k = k' + 1 := ⟨k - 1, by omega⟩
          have hlt2 : k < l.length := by omega
          have d2 := HC.out _ HB.out k _ (intz_at hlt2)
          have HP : Hid (l.getD (k + 1 - 1) 0 = l[k]) := Lib.hid (by rw [Nat.add_sub_cancel, getD_at hlt2])
          rw [HP.out] at HV
          generalize l[k + 1] = x at d1 HV
          generalize l[k] = y at d2 HV
          have i3 : (0 : Int) ≤ (k : Int) := by omega
          have i4 : (k : Int) < (l.length : Int) := by omega
          have i5 : (0 : Int) < ((k + 1 : Nat) : Int) := by omega
          have i6 : (((k + 1 : Nat) : Int) - 1) = (k : Int) := by omega
          cases hx : (decide (0 ≤ x) && decide (x ≤ (xs.length : Int) - 1))
          · have HF := Lib.hid (HO.out (by rw [HV.out, hx]; rfl))
            have HW := Lib.hid fun w => val_eq (v' := .bool false) (HI2.out x w) (by rw [hx])
            clear hx
            go_wp2
            go_quiet ((go_at_call 81; exact Calls.quiet_of_same (HW.out _)))
            go_wp2
            go_ret
            exact ⟨by rw [HF.out]; rfl, below_dr HB.out _⟩
          · have HW := Lib.hid fun w => val_eq (v' := .bool true) (HI2.out x w) (by rw [hx])
            by_cases hyx : y < x
            · have HN2 := Lib.hid (HS.out (by rw [HV.out, hx, decide_eq_true hyx]; simp))
              have hyx2 : ¬ x ≤ y := by omega
              clear hx hyx
              go_wp2
              go_quiet ((go_at_call 81; exact Calls.quiet_of_same (HW.out _)))
              go_wp2
              go_roundw
              case rel => exact ⟨k + 2, by go_num, by omega, by omega, hc, Lib.hid (below_dr HB.out _), HN2⟩
              case measure => simp [intOf]; omega
            · have HF := Lib.hid (HO.out (by rw [HV.out, hx, decide_eq_false hyx, decide_eq_false (by omega : ¬ k + 1 = 0)]; rfl))
              have hyx2 : x ≤ y := by omega
              clear hx hyx
              go_wp2
              go_quiet ((go_at_call 81; exact Calls.quiet_of_same (HW.out _)))
              go_wp2
              go_ret
              exact ⟨by rw [HF.out]; rfl, below_dr HB.out _⟩
      · exfalso
        have h2 := okL_len (k := 11) (fun j hj => HA.out j (by omega))
        omega
    · have HF := Lib.hid (HEnd.out (by omega))
      go_wp2_with fail
      refine (HI.out _).mono ?_
      rintro e w2 ⟨rfl, hww⟩
      obtain rfl := hww.symm
      go_wp2
      go_ret
      exact ⟨by rw [HF.out]; rfl, HB.out⟩
set_option maxHeartbeats 1000000 in
theorem sAreLetters_any (a : Option Addr) (b o c : Nat) (xs : List ByteArray) (a1 : Option Addr) (g1 c1 : Nat) (l : List Int) (w : World) (h : ListIn w a b o xs) (hs : SrcV w a1 g1 (intz l)) (hl : l.length ≤ 1048576) :
    Calls Try.prog 18 #[.agg #[.slice a xs.length c], .slice a1 l.length c1] w fun e w' => e = .returned (.tuple #[.bool (lttB xs l), .bool (tableB xs)]) ∧ Below w.heap.size w w' := by
  have F := Lib.hid fun ob => stable_any a b o c xs (w.alloc ob) (h.below (below_alloc w ob))
  have G := Lib.hid fun (hn : xs.length ≤ 10) W (hb : Below w.heap.size w W) => sLt_any a b o c xs a1 g1 c1 l W hn (hs.below hb) hl
  have HK := Lib.hid (cell_new w (.slice a xs.length c) 29)
  clear h hs
  by_cases ht : tableB xs = true
  · have F2 := Lib.hid fun ob => val_eq (v' := .bool true) (F.out ob) (by rw [ht])
    have HR : Hid (lttB xs l = ltB xs.length l) := Lib.hid (by unfold lttB; rw [ht, Bool.true_and])
    have G2 := Lib.hid (G.out ((tableB_iff xs).1 ht).1.2)
    rw [ht, HR.out]
    clear F G ht HR
    go_enter Try.func18, Try.ntmps18
    go_wp2_with fail
    refine (F2.out _).mono ?_
    rintro e w1 ⟨rfl, hb⟩
    have HB := Lib.hid ((below_alloc w (.cells #[.slice a xs.length c] 29)).trans (hb.mono (by simp)))
    have hc := (hb.cell (p := ⟨w.heap.size, 0, none⟩) (by simp)).trans HK.out
    clear hb
    go_wp2_with fail
    refine (G2.out _ HB.out).mono ?_
    rintro e w2 ⟨rfl, hb⟩
    have HB2 := Lib.hid (HB.out.trans (hb.mono HB.out.size))
    clear hb
    go_wp2
    go_ret2
    exact ⟨rfl, HB2.out⟩
  · have F2 := Lib.hid fun ob => val_eq (v' := .bool false) (F.out ob) (by simp [ht])
    have HR : Hid (lttB xs l = false ∧ tableB xs = false) := Lib.hid (by simp [lttB, ht])
    rw [HR.out.1, HR.out.2]
    clear F G ht HR
    go_enter Try.func18, Try.ntmps18
    go_wp2_with fail
    refine (F2.out _).mono ?_
    rintro e w1 ⟨rfl, hb⟩
    have HB := Lib.hid ((below_alloc w (.cells #[.slice a xs.length c] 29)).trans (hb.mono (by simp)))
    clear hb
    go_wp2
    go_ret2
    exact ⟨rfl, HB.out⟩
theorem areLetters_both (xs : List ByteArray) (l : List Int) (hxl : xs.length ≤ 1048576) (hxt : ∀ x ∈ xs, x.size ≤ 1048576) (hl : l.length ≤ 1048576) : ∃ (R0 R1 : Bool),
    Hid (∀ W a b o c, ListIn W a b o xs → ∀ a1 g1 c1, SrcV W a1 g1 (intz l) → Calls Try.prog 18 #[.agg #[.slice a xs.length c], .slice a1 l.length c1] W fun e W' => e = .returned (.tuple #[.bool R0, .bool R1]) ∧ Below W.heap.size W W') ∧
    Hid (∀ W a b o c, ListIn W a b o xs → ∀ a1 g1 c1, SrcV W a1 g1 (intz l) → Calls Try.prog 21 #[.agg #[.slice a xs.length c], .slice a1 l.length c1] W fun e W' => e = .returned (.tuple #[.bool R0, .bool R1]) ∧ Below W.heap.size W W') :=
  ⟨_, _, fun W a b o c h a1 g1 c1 hs => sAreLetters_any a b o c xs a1 g1 c1 l W h hs hl, fun W a b o c h a1 g1 c1 hs => areLettersT_any a b o c xs a1 g1 c1 l W h hs hl⟩
end Go.Proofs.Ythkafalpjokfeaa
