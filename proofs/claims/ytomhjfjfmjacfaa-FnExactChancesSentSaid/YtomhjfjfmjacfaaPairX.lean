/-
  The laws' own eqIntA2S, markIntA2S, heldIntA2S at a list of pairs. Used by the claims on chapter 3.
-/
import Derived.Test.YtomhjfjfmjacfaaSeqW
import Derived.Deep.RegionWith
import Derived.Deep.RegionLaw
import Derived.Deep.RegionHeldLaw
namespace Go.Proofs.Ytomhjfjfmjacfaa
open Go.RowKit
set_option linter.unusedVariables false

set_option maxHeartbeats 4000000 in
set_option maxRecDepth 8000 in
theorem eqP_yes (a1 a2 : Option Addr) (g1 g2 c1 c2 : Nat) (l : List (Nat × Nat)) (w : World) (hl : l.length ≤ 1000) (h1 : SrcV w a1 g1 (prs l)) (h2 : SrcV w a2 g2 (prs l)) :
    Calls Try.prog 28 #[.slice a1 l.length c1, .slice a2 l.length c2] w fun e w' => e = .returned (.bool true) ∧ Below w.heap.size w w' := by
  have H1 := Lib.hid fun W hb => h1.below (w' := W) hb
  have H2 := Lib.hid fun W hb => h2.below (w' := W) hb
  clear h1 h2
  go_enter Try.func28, Try.ntmps28
  go_wp2
  go_loopw [5] (fun v wr => ∃ i : Nat, v = .int .i64 i ∧ i ≤ l.length ∧ Hid (Below w.heap.size w wr)) (fun v _ => l.length - (intOf v).toNat)
  case atStart => exact ⟨0, rfl, Nat.zero_le _, Lib.hid (Below.refl _ _)⟩
  case round =>
    obtain ⟨i, rfl, hi, HB⟩ := hrel
    by_cases hlt : i < l.length
    · have hp0 : 0 < (prs l).length := by rw [prs_len]; omega
      obtain rfl := (H1.out w (Below.refl _ _)).1 hp0
      obtain rfl := (H2.out w (Below.refl _ _)).1 hp0
      have d1 := (H1.out wr HB.out).2 _ _ (prs_at hlt).1
      have d2 := (H1.out wr HB.out).2 _ _ (prs_at hlt).2
      have d3 := (H2.out wr HB.out).2 _ _ (prs_at hlt).1
      have d4 := (H2.out wr HB.out).2 _ _ (prs_at hlt).2
      generalize l[i].1 = x at d1 d3
      generalize l[i].2 = y at d2 d4
      have HE := Lib.hid fun w => eqA2_yes (x : Int) (y : Int) w
      have i0 : (0 : Int) ≤ (i : Int) := by omega
      have i1 : (i : Int) < (l.length : Int) := by omega
      have e2 : i * 2 = 2 * i := Nat.mul_comm _ _
      rw [← e2] at d1 d2 d3 d4
      clear e2
      go_wp2
      go_region_with (go_at_call 20; refine (HE.out _).mono ?_; rintro e w5 ⟨rfl, hb5⟩; have HB5 := Lib.hid (HB.out.drew.trans (hb5.mono HB.out.size)); clear hb5)
      all_goals (
        go_wp2
        go_roundw
        case rel => exact ⟨i + 1, by go_num, by omega, HB5⟩
        case measure => simp [intOf]; omega)
    · go_wp2
      go_ret
      exact ⟨rfl, HB.out⟩

set_option maxHeartbeats 4000000 in
theorem markP_any (a : Option Addr) (g : Nat) (l : List (Nat × Nat)) (c : Nat) (w : World) (ha : 0 < (prs l).length → a = some ⟨g, 0, none⟩) (h2 : l.length ≤ 1000) (ho : ∀ j, j < (prs l).length → (∃ v, w.cell? ⟨g, j, none⟩ = some v) ∧ w.frozen? ⟨g, j, none⟩ = false) :
    Calls Try.prog 30 #[.slice a l.length c, .int .i64 1] w fun e w' => e = .returned (.int .i64 ((1 + (prs l).length : Nat) : Int)) ∧ w.grownBy w' (some g) ∧ ∀ j, j < (prs l).length → w'.cell? ⟨g, j, none⟩ = some (.int .i64 ((1 + j : Nat) : Int)) := by
  rw [prs_len] at ha ho ⊢
  have HA := Lib.hid ha
  have HO : Hid (MarkedI w w g (2 * l.length) 0) := Lib.hid ⟨⟨rfl, rfl, rfl, Nat.le_refl _, fun _ _ _ => rfl⟩, fun j hj => absurd hj (by omega), ho⟩
  clear ha ho
  go_enter Try.func30, Try.ntmps30
  go_wp2
  go_loopw [1, 5] (fun q v wr => ∃ (i : Nat), v = .int .i64 i ∧ i ≤ l.length ∧ q = .int .i64 ((1 + i * 2 : Nat) : Int) ∧ Hid (MarkedI w wr g (2 * l.length) (i * 2))) (fun _ v _ => l.length - (intOf v).toNat)
  case atStart => exact ⟨0, rfl, Nat.zero_le _, rfl, HO⟩
  case round =>
    obtain ⟨i, rfl, hi, rfl, HM⟩ := hrel
    by_cases hlt : i < l.length
    · obtain rfl := HA.out (by omega)
      have i0 : (0 : Int) ≤ (i : Int) := by omega
      have i1 : (i : Int) < (l.length : Int) := by omega
      go_wp2
      go_loopw [1, 6] (fun q v wr2 => ∃ (j : Nat), v = .int .i64 j ∧ j ≤ 2 ∧ q = .int .i64 ((1 + (i * 2 + j) : Nat) : Int) ∧ Hid (MarkedI w wr2 g (2 * l.length) (i * 2 + j))) (fun _ v _ => 2 - (intOf v).toNat)
      case atStart => exact ⟨0, rfl, by omega, rfl, HM⟩
      case round =>
        obtain ⟨j, rfl, hj, rfl, HN⟩ := hrel
        rcases (show j = 0 ∨ j = 1 ∨ j = 2 by omega) with e | e | e
        · subst e
          have HN0 : Hid (MarkedI w wr g (2 * l.length) (i * 2)) := HN
          obtain ⟨⟨v, hv⟩, hf⟩ := HN0.out.open_ (i * 2) (by omega)
          have HS := Lib.hid (HN0.out.step (i := i * 2) (by omega))
          go_wp2
          go_roundw
          case rel => exact ⟨1, rfl, by omega, by congr 1, HS⟩
          case measure => simp [intOf]
        · subst e
          obtain ⟨⟨v, hv⟩, hf⟩ := HN.out.open_ (i * 2 + 1) (by omega)
          have HS := Lib.hid (HN.out.step (i := i * 2 + 1) (by omega))
          go_wp2
          go_roundw
          case rel => exact ⟨2, rfl, by omega, by congr 1, HS⟩
          case measure => simp [intOf]
        · subst e
          have HN2 : Hid (MarkedI w wr g (2 * l.length) ((i + 1) * 2)) := by rw [show (i + 1) * 2 = i * 2 + 2 by omega]; exact HN
          go_wp2
          go_roundw
          case rel => exact ⟨i + 1, by go_num, by omega, by congr 1; omega, HN2⟩
          case measure => simp [intOf]; omega
    · obtain rfl : i = l.length := by omega
      go_wp2
      go_ret
      refine ⟨by rw [Nat.mul_comm 2]; rfl, HM.out.grown, fun j hj => HM.out.done j (by omega)⟩

set_option maxHeartbeats 4000000 in
theorem heldP_any (a : Option Addr) (g : Nat) (l : List (Nat × Nat)) (c : Nat) (w : World) (ha : 0 < (prs l).length → a = some ⟨g, 0, none⟩) (h2 : l.length ≤ 1000) (ho : ∀ j, j < (prs l).length → w.cell? ⟨g, j, none⟩ = some (.int .i64 ((1 + j : Nat) : Int))) :
    Calls Try.prog 31 #[.slice a l.length c, .int .i64 1] w fun e w' => e = .returned (.int .i64 ((1 + (prs l).length : Nat) : Int)) ∧ Below w.heap.size w w' := by
  rw [prs_len] at ha ho ⊢
  have HA := Lib.hid ha
  have HO := Lib.hid ho
  clear ha ho
  go_enter Try.func31, Try.ntmps31
  go_wp2
  go_loopw [1, 5] (fun q v wr => ∃ (i : Nat), v = .int .i64 i ∧ i ≤ l.length ∧ q = .int .i64 ((1 + i * 2 : Nat) : Int) ∧ wr = w) (fun _ v _ => l.length - (intOf v).toNat)
  case atStart => exact ⟨0, rfl, Nat.zero_le _, rfl, rfl⟩
  case round =>
    obtain ⟨i, rfl, hi, rfl, hwr⟩ := hrel
    subst hwr
    by_cases hlt : i < l.length
    · obtain rfl := HA.out (by omega)
      have i0 : (0 : Int) ≤ (i : Int) := by omega
      have i1 : (i : Int) < (l.length : Int) := by omega
      have d0 := HO.out (i * 2) (by omega)
      have d1 := HO.out (i * 2 + 1) (by omega)
      go_wp2
      go_loopw [1, 6] (fun q v wr2 => ∃ (j : Nat), v = .int .i64 j ∧ j ≤ 2 ∧ q = .int .i64 ((1 + (i * 2 + j) : Nat) : Int) ∧ wr2 = wr) (fun _ v _ => 2 - (intOf v).toNat)
      case atStart => exact ⟨0, rfl, by omega, rfl, rfl⟩
      case round =>
        obtain ⟨j, rfl, hj, rfl, hwr2⟩ := hrel
        subst hwr2
        rcases (show j = 0 ∨ j = 1 ∨ j = 2 by omega) with e | e | e
        · subst e
          go_wp2
          go_roundw
          case rel => exact ⟨1, rfl, by omega, by congr 1, trivial⟩
          case measure => simp [intOf]
        · subst e
          go_wp2
          go_roundw
          case rel => exact ⟨2, rfl, by omega, by congr 1, trivial⟩
          case measure => simp [intOf]
        · subst e
          go_wp2
          go_roundw
          case rel => exact ⟨i + 1, by go_num, by omega, by congr 1; omega, trivial⟩
          case measure => simp [intOf]; omega
    · obtain rfl : i = l.length := by omega
      go_wp2
      go_ret
      exact ⟨by rw [Nat.mul_comm 2]; rfl, Below.refl _ _⟩
end Go.Proofs.Ytomhjfjfmjacfaa
