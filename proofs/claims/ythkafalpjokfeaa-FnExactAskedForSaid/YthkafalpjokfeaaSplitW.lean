/-
  Contract of the model's l1Split. Used by the claims on SplitString, VerifyChecksum, FnStrings, FnSplitJoin.
-/
import Derived.Test.YthkafalpjokfeaaSplitL
import Derived.Test.YthkafalpjokfeaaRows
import Derived.WalkKit
import Derived.LoopTactic
import Derived.Handy
import Derived.Lib.Hide
import Derived.Laws.AppendOwn
import Derived.OwnWalk
import Derived.Maps.AppendAt
namespace Go.Proofs.Ythkafalpjokfeaa
open Go.RowKit
set_option linter.unusedVariables false

theorem infoStr : (Try.prog.info? 9).map (fun i => (i.zero, i.size, i.bytes)) = some (some (.string ByteArray.empty), 1, 16) := by kernel_rfl

/-- How l1Split ends: a slice of its own with the parts. -/
def SplitPost (s : ByteArray) (b : UInt8) (w : World) (e : Ending) (w' : World) : Prop :=
  ∃ v, e = .returned v ∧ w'.ownsRow w.heap.size 9 1 v (splitS s b).length ((splitS s b).map Value.string) ∧ Below w.heap.size w w'

theorem l1Split_any (s : ByteArray) (b : UInt8) (w : World) (hs : s.size ≤ 1048576) :
    Calls Try.prog 123 #[.string s, .int .u8 b.toNat] w (SplitPost s b w) := by
  obtain ⟨i0, hi, hz0, hz1, hz2⟩ := info_parts infoStr
  have hm0 : (w.alloc (Obj.cells #[] 9)).ownsRow w.heap.size 9 1 (.slice (some ⟨w.heap.size, 0, none⟩) 0 0) 0 [] := World.ownsRow_made w #[] 0 (Nat.le_refl _) (by unfold maxLen; omega) rfl
  have M0 := Lib.hid hm0
  clear hm0
  go_enter Try.func123, Try.ntmps123
  go_wp2
  go_loopw [5, 6, 7] (fun v f i wr => ∃ (k q : Nat) (ps : List ByteArray), k ≤ s.size ∧ q ≤ k ∧ ps.length ≤ k ∧ i = .int .i64 k ∧ f = .int .i64 q ∧ Hid (cutAt s b k = (ps, q)) ∧ wr.ownsRow w.heap.size 9 1 v ps.length (ps.map Value.string) ∧ Below w.heap.size w wr) (fun _ _ i _ => s.size - (intOf i).toNat)
  case atStart => exact ⟨0, 0, [], Nat.zero_le _, Nat.le_refl _, Nat.zero_le _, rfl, rfl, rfl, M0.out, (Below.refl _ _).alloc (Nat.le_refl _) _⟩
  case round =>
    obtain ⟨k, q, ps, hk, hq, hp, rfl, rfl, HC, hown, hB⟩ := hrel
    by_cases hlt : k < s.size
    · by_cases heq : s[k] = b
      · have hne : ((s[k].toNat : Int) == (b.toNat : Int)) = true := by rw [heq]; simp
        have HN : Hid (cutAt s b (k + 1) = (ps ++ [s.extract q k], k + 1)) := by
          show _ = _
          rw [cutAt_hit s b k (by rw [byte_at s k hlt, heq]), HC.out]
        clear heq
        go_wp2_with (at_builtin; refine wpList_append_own _ rfl _ _ 22 rfl w.heap.size 9 i0 (.string ByteArray.empty) 1 16 Try.underlying22 hi hz0 hz1 hz2 rfl (by decide) _ _ _ rfl (hown.alloc _) ⟨wr.heap.size, 0, none⟩ 1 1 [.string (s.extract q k)] rfl rfl (cell_one_new _ _ _) (by simp [Value.oneCell']) (by unfold maxLen; omega) (by omega) (by have := hB.size; simp; omega) ?_; intro v' w1 hown' hgrow _)
        have HW : Hid (w1.ownsRow w.heap.size 9 1 v' (ps ++ [s.extract q k]).length ((ps ++ [s.extract q k]).map Value.string)) := Lib.hid (by simpa using hown')
        have HB := Lib.hid ((hB.alloc hB.size _).grown hgrow (by have := hB.size; simp; omega) (fun j e => (hown.lt j e).1))
        clear hown' hgrow
        go_roundw
        case rel => exact ⟨k + 1, k + 1, ps ++ [s.extract q k], by omega, by omega, by simp; omega, by go_num, by go_num, HN, HW.out, HB.out⟩
        case measure => simp [intOf]; omega
      · have hne : ((s[k].toNat : Int) == (b.toNat : Int)) = false := beq_false_of_ne (fun e => heq (UInt8.toNat_inj.1 (by omega)))
        have HN : Hid (cutAt s b (k + 1) = (ps, q)) := by
          show _ = _
          rw [cutAt_miss s b k (by rw [byte_at s k hlt]; intro e; exact heq (Option.some.inj e)), HC.out]
        clear heq
        go_wp2
        go_roundw
        case rel => exact ⟨k + 1, q, ps, by omega, by omega, by omega, by go_num, rfl, HN, hown, hB⟩
        case measure => simp [intOf]; omega
    · obtain rfl : k = s.size := by omega
      have HN : Hid (splitS s b = ps ++ [s.extract q s.size]) := by
        show _ = _
        unfold splitS; rw [HC.out]
      go_wp2_with (at_builtin; refine wpList_append_own _ rfl _ _ 22 rfl w.heap.size 9 i0 (.string ByteArray.empty) 1 16 Try.underlying22 hi hz0 hz1 hz2 rfl (by decide) _ _ _ rfl (hown.alloc _) ⟨wr.heap.size, 0, none⟩ 1 1 [.string (s.extract q s.size)] rfl rfl (cell_one_new _ _ _) (by simp [Value.oneCell']) (by unfold maxLen; omega) (by omega) (by have := hB.size; simp; omega) ?_; intro v' w1 hown' hgrow _)
      have HW : Hid (w1.ownsRow w.heap.size 9 1 v' (ps ++ [s.extract q s.size]).length ((ps ++ [s.extract q s.size]).map Value.string)) := Lib.hid (by simpa using hown')
      have HB := Lib.hid ((hB.alloc hB.size _).grown hgrow (by have := hB.size; simp; omega) (fun j e => (hown.lt j e).1))
      clear hown' hgrow
      go_ret
      exact ⟨v', rfl, by rw [HN.out]; exact HW.out, HB.out⟩
end Go.Proofs.Ythkafalpjokfeaa
