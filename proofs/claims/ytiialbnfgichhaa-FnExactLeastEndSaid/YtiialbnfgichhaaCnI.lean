/-
  slices.Index and slices.Contains at a list of numbers. Used by the claims on chapter 10.
-/
import Derived.Test.YtiialbnfgichhaaIntW
namespace Go.Proofs.Ytiialbnfgichhaa
open Go.RowKit
set_option linter.unusedVariables false
theorem indexI_any (a : Option Addr) (g c : Nat) (L : List Int) (v : Int) (w : World) (hs : SrcV w a g (intz L)) (hl : L.length ≤ 1048576) :
    Calls Try.prog 136 #[.slice a L.length c, .int .i64 v] w fun e w' => (∃ r : Int, e = .returned (.int .i64 r) ∧ ((0 ≤ r ∧ v ∈ L) ∨ (r = -1 ∧ v ∉ L))) ∧ w' = w := by
  have HR := Lib.hid hs
  clear hs
  go_enter Try.func136, Try.ntmps136
  go_wp2
  go_loopw [8] (fun u wr => ∃ k : Nat, u = .int .i64 (k : Int) ∧ k ≤ L.length ∧ Hid (∀ j, j < k → L[j]? ≠ some v) ∧ wr = w) (fun u _ => L.length - (intOf u).toNat)
  case atStart => exact ⟨0, rfl, Nat.zero_le _, Lib.hid (fun j hj => by omega), rfl⟩
  case round =>
    obtain ⟨k, rfl, hk, HN, hwr⟩ := hrel
    subst hwr
    by_cases hlt : k < L.length
    · obtain rfl := HR.out.1 (by rw [intz_len]; omega)
      have d1 := HR.out.2 k _ (intz_at hlt)
      have hx := Lib.hid (List.getElem?_eq_getElem hlt)
      have i0 : (0 : Int) ≤ (k : Int) := by omega
      have i1 : (k : Int) < (L.length : Int) := by omega
      by_cases e : v = L[k]
      · have HM : Hid (v ∈ L) := Lib.hid (by rw [e]; exact List.getElem_mem hlt)
        rw [← e] at d1
        have e1 : (v == v) = true := by simp
        clear hx e
        go_wp2
        go_ret
        exact ⟨⟨_, rfl, Or.inl ⟨i0, HM.out⟩⟩, rfl⟩
      · have e1 : (v == L[k]) = false := beq_false_of_ne e
        have HN2 : Hid (∀ j, j < k + 1 → L[j]? ≠ some v) := Lib.hid (fun j hj => by
          by_cases h : j = k
          · subst h; rw [hx.out]; exact fun h2 => e (Option.some.inj h2).symm
          · exact HN.out j (by omega))
        generalize L[k] = x at d1 e1 hx
        clear e hx
        go_wp2
        go_roundw
        case rel => exact ⟨k + 1, by go_num, by omega, HN2, by trivial⟩
        case measure => simp [intOf]; omega
    · obtain rfl : k = L.length := by omega
      have HM : Hid (v ∉ L) := Lib.hid (fun h => by
        obtain ⟨j, hj, hjx⟩ := List.getElem_of_mem h
        exact HN.out j hj (by rw [List.getElem?_eq_getElem hj, hjx]))
      go_wp2
      go_ret
      exact ⟨⟨_, rfl, Or.inr ⟨rfl, HM.out⟩⟩, rfl⟩
theorem containsI_any (a : Option Addr) (g c : Nat) (L : List Int) (v : Int) (w : World) (hs : SrcV w a g (intz L)) (hl : L.length ≤ 1048576) :
    Calls Try.prog 108 #[.slice a L.length c, .int .i64 v] w fun e w' => e = .returned (.bool (decide (v ∈ L))) ∧ w' = w := by
  have F := Lib.hid (indexI_any a g c L v w hs hl)
  clear hs
  go_enter Try.func108, Try.ntmps108
  go_wp2_with fail
  refine F.out.mono ?_
  rintro e w1 ⟨⟨r, rfl, hr⟩, hww⟩
  obtain rfl := hww.symm
  rcases hr with ⟨h1, h2⟩ | ⟨h1, h2⟩
  · have HD : Hid (decide (v ∈ L) = true) := Lib.hid (decide_eq_true h2)
    go_wp2
    go_ret
    exact ⟨by rw [HD.out]; rfl, rfl⟩
  · subst h1
    have HD : Hid (decide (v ∈ L) = false) := Lib.hid (decide_eq_false h2)
    go_wp2
    go_ret
    exact ⟨by rw [HD.out]; rfl, rfl⟩
end Go.Proofs.Ytiialbnfgichhaa
