/-
  The text of a node, the model's l9Marks and MarksOfNode: both answer alike. Used by the claims on chapter 9.
-/
import Derived.Test.YtdphjnbelggcfaaUpT
namespace Go.Proofs.Ytdphjnbelggcfaa
open Go.RowKit Go.Shelf
set_option linter.unusedVariables false

theorem bl_cons_app (b : UInt8) (s : ByteArray) : bl ((⟨#[b]⟩ : ByteArray) ++ s) = b :: bl s := by
  show ((⟨#[b]⟩ : ByteArray) ++ s).data.toList = _
  rw [ByteArray.data_append, Array.toList_append]; rfl
theorem sMarks_any (m : Nat) (hm : m ≤ 63) (w : World) :
    Calls Try.prog 76 #[.int .i64 (m : Int)] w fun e w' => e = .returned (.string (ba (txN m))) ∧ w' = w := by
  have HL : Hid (∀ (k : Nat) (s : ByteArray), txN k ++ bl s = txN m → s.size ≤ 5) := Lib.hid fun k s e => by
    have h1 := txN_len m 5 (by omega)
    rw [← e, List.length_append, bl_len] at h1; omega
  go_enter Try.func76, Try.ntmps76
  go_wp2
  go_loopw [0, 3] (fun v sv wr => ∃ (k : Nat) (s : ByteArray), v = .int .i64 (k : Int) ∧ sv = .string s ∧ k ≤ 63 ∧ Hid (txN k ++ bl s = txN m) ∧ wr = w) (fun v _ _ => (intOf v).toNat)
  case atStart => exact ⟨m, ⟨#[]⟩, rfl, rfl, hm, Lib.hid (by show txN m ++ [] = _; simp), rfl⟩
  case round =>
    obtain ⟨k, s, rfl, rfl, hk, HT, hwr⟩ := hrel
    subst hwr
    have hs5 := HL.out k s HT.out
    by_cases hlt : 1 < k
    · have hmore := txN_more (n := k) (by omega)
      have HN : Hid (txN (k / 2) ++ bl ((⟨#[lastMk k]⟩ : ByteArray) ++ s) = txN m) := Lib.hid (by rw [bl_cons_app, ← HT.out, hmore]; simp)
      by_cases h2 : k % 2 = 1
      · have e1 : (((k : Int).tmod 2) == 1) = true := by rw [Int.tmod_eq_emod_of_nonneg (by omega)]; simp; omega
        have e2 : (((k : Int) % 2) == 1) = true := by simp; omega
        have hl : lastMk k = 45 := by unfold lastMk; rw [if_neg (by omega)]
        rw [hl] at HN
        clear h2 hmore hl
        go_wp2
        go_roundw
        case rel => exact ⟨k / 2, _, by first | rfl | go_num, rfl, by omega, HN, by trivial⟩
        case measure => simp [intOf]; omega
      · have e1 : (((k : Int).tmod 2) == 1) = false := by rw [Int.tmod_eq_emod_of_nonneg (by omega)]; simp; omega
        have e2 : (((k : Int) % 2) == 1) = false := by simp; omega
        have hl : lastMk k = 46 := by unfold lastMk; rw [if_pos (by omega)]
        rw [hl] at HN
        clear h2 hmore hl
        go_wp2
        go_roundw
        case rel => exact ⟨k / 2, _, by first | rfl | go_num, rfl, by omega, HN, by trivial⟩
        case measure => simp [intOf]; omega
    · have HE : Hid (s = ba (txN m)) := Lib.hid (by
        have h1 := HT.out
        rw [txN_one (by omega), List.nil_append] at h1
        apply bl_inj; rw [bl_ba]; exact h1)
      go_wp2
      go_ret
      exact ⟨by rw [← HE.out]; rfl, rfl⟩
theorem sMarksOfNode_any (z : Int) (w : World) :
    Calls Try.prog 22 #[.int .i64 z] w fun e w' => e = .returned (.tuple #[.string (moR z), .bool (moB z)]) ∧ Below w.heap.size w w' := by
  have I1 : Hid (∀ W, Calls Try.prog 75 #[.int .i64 z, .int .i64 1, .int .i64 63] W fun e w' => e = .returned (.bool (moB z)) ∧ w' = W) := Lib.hid fun W => in_any z 1 63 W
  by_cases h : 1 ≤ z ∧ z ≤ 63
  · obtain ⟨m, rfl, m1, m2, hR, hB⟩ := mo_yes h
    have HR := Lib.hid hR
    rw [hB] at I1 ⊢
    have F := Lib.hid fun W => sMarks_any m m2 W
    clear h hR hB
    go_enter Try.func22, Try.ntmps22
    go_wp2_with fail
    refine (I1.out _).mono ?_
    rintro e w1 ⟨rfl, rfl⟩
    go_wp2_with fail
    refine (F.out _).mono ?_
    rintro e w1 ⟨rfl, rfl⟩
    go_wp2
    go_ret2
    exact ⟨by rw [HR.out]; rfl, Below.refl _ _⟩
  · have HR := Lib.hid (mo_no h)
    rw [HR.out.2] at I1 ⊢
    clear h
    go_enter Try.func22, Try.ntmps22
    go_wp2_with fail
    refine (I1.out _).mono ?_
    rintro e w1 ⟨rfl, rfl⟩
    go_wp2
    go_ret2
    exact ⟨by rw [HR.out.1]; rfl, Below.refl _ _⟩
theorem marksOfNode_both (z : Int) (hz : (Lit.int .i64 z).wf = true) : ∃ (R0 : ByteArray) (R1 : Bool),
    Hid (∀ W, Calls Try.prog 22 #[.int .i64 z] W fun e W' => e = .returned (.tuple #[.string R0, .bool R1]) ∧ Below W.heap.size W W') ∧
    Hid (∀ W, Calls Try.prog 23 #[.int .i64 z] W fun e W' => e = .returned (.tuple #[.string R0, .bool R1]) ∧ Below W.heap.size W W') :=
  ⟨_, _, fun W => sMarksOfNode_any z W, fun W => marksOfNode_any z W⟩
end Go.Proofs.Ytdphjnbelggcfaa
