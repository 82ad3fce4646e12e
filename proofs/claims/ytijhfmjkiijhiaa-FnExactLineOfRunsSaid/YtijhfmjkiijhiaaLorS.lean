/-
  LineOfRuns, the model's. Used by the claim on LineOfRuns.
-/
import Derived.Test.YtijhfmjkiijhiaaLorW
namespace Go.Proofs.Ytijhfmjkiijhiaa
open Go.RowKit
set_option linter.unusedVariables false

set_option maxHeartbeats 16000000 in
set_option maxRecDepth 8000 in
theorem lorS_any (a : Option Addr) (b o c : Nat) (l : Ps) (w : World) (hs : SrcP w a b o l) (hl : l.length ≤ 1048576) (hin : PsIn l) :
    Calls Try.prog 8 #[.slice a l.length c] w (LorOut l w) := by
  have HS := Lib.hid fun W hb => hs.below (w' := W) hb
  have HX := Lib.hid hs.1
  have HI := Lib.hid hin
  clear hs hin
  go_enter Try.func8, Try.ntmps8
  go_wp2
  go_loopw [4, 5] (fun sv v wr => ∃ (k : Nat) (bb : Bs), v = .int .i64 k ∧ k ≤ l.length ∧ sv = .string ⟨bb.toArray⟩ ∧ bb.length ≤ 200 ∧ Hid (lorTo l k = some bb) ∧ Hid (Below w.heap.size w wr)) (fun _ v _ => l.length - (intOf v).toNat)
  case atStart => exact ⟨0, [], rfl, Nat.zero_le _, rfl, Nat.zero_le _, Lib.hid rfl, Lib.hid (Below.refl _ _)⟩
  case round =>
    obtain ⟨k, bb, rfl, hk, rfl, hbl, HL, HB⟩ := hrel
    by_cases hlt : k < l.length
    · obtain rfl := HX.out (by omega)
      have d1 := ((HS.out wr HB.out).2 k _ (atP_get hlt)).1
      have d2 := ((HS.out wr HB.out).2 k _ (atP_get hlt)).2
      have HP : Hid (0 < k → wr.cell? ⟨b, o + (k - 1) * 2, none⟩ = some (.int .i64 (atP l (k - 1)).1)) := Lib.hid fun h => ((HS.out wr HB.out).2 (k - 1) _ (atP_get (by omega))).1
      have HNo := Lib.hid (lor_no hlt HL.out)
      have HYes : Hid (((atP l k).1 = 0 ∨ (atP l k).1 = 1) ∧ ¬ (0 < k ∧ (atP l k).1 = (atP l (k - 1)).1) ∧ 1 ≤ (atP l k).2 ∧ (atP l k).2 ≤ 200 - (bb.length : Int) → lorTo l (k + 1) = some (bb ++ List.replicate (atP l k).2.toNat (byteOf (atP l k).1.toNat))) := Lib.hid fun h => lor_yes HL.out (by unfold runFits; exact decide_eq_true h)
      have hxi := HI.out _ (List.mem_of_getElem? (atP_get hlt))
      have hpi : 0 < k → -9223372036854775808 ≤ (atP l (k - 1)).1 ∧ (atP l (k - 1)).1 ≤ 9223372036854775807 := fun h => (HI.out _ (List.mem_of_getElem? (atP_get (by omega)))).1
      generalize (atP l k).1 = x at d1 HNo HYes hxi
      generalize (atP l k).2 = y at d2 HNo HYes hxi
      generalize (atP l (k - 1)).1 = p at HP HNo HYes hpi
      obtain ⟨r, hr⟩ : ∃ r : Nat, 200 - bb.length = r := ⟨_, rfl⟩
      have v1 : wrap64 (200 - (bb.length : Int)) = (r : Int) := by rw [IntWalk.wrap64_in _ (by omega)]; omega
      have v2 : IntKind.i64.wrap (200 - (bb.length : Int)) = (r : Int) := by rw [IntKind.wrap_i64]; omega
      have v3 : (200 : Int) - (bb.length : Int) = (r : Int) := by omega
      have hr2 : r ≤ 200 := by omega
      rw [v3] at HNo HYes
      have i0 : (0 : Int) ≤ (k : Int) := by omega
      have i1 : (k : Int) < (l.length : Int) := by omega
      by_cases hx : x = 0 ∨ x = 1
      rotate_left
      · have HN := Lib.hid (HNo.out (by omega))
        have b0 : (x == 0) = false := beq_false_of_ne (by omega)
        have b1 : (x != 0) = true := by rw [bne, b0]; rfl
        have b2 : (x == 1) = false := beq_false_of_ne (by omega)
        have b3 : (x != 1) = true := by rw [bne, b2]; rfl
        have HI1 := Lib.hid (in_is x 0 1 false (by by_cases h : (0 : Int) ≤ x <;> simp [h]; omega))
        have HI2 := HI1
        clear hx HNo HYes HP hpi
        iterate 6 (try (go_wp2; go_quiet ((first | (go_at_call_of 19 (Value.int IntKind.i64 0); (first | exact quiet_add HI1.out _ _ | exact Calls.quiet_of_same (HI1.out _))) | (go_at_call_of 19 (Value.int IntKind.i64 (r : Int)); (first | exact quiet_add HI2.out _ _ | exact Calls.quiet_of_same (HI2.out _)))))))
        go_wp2
        (first | go_ret | go_ret2)
        exact lorOut_no HN.out (by first | exact HB.out | exact below_drewP _ HB.out | exact below_drewP _ (below_drewP _ HB.out) | exact below_drewP _ (below_drewP _ (below_drewP _ HB.out)))
      rcases hx with hx | hx
      · subst hx
        have hpc : (k = 0) ∨ (0 < k ∧ 0 = p) ∨ (0 < k ∧ 0 ≠ p) := by omega
        have HI1 := Lib.hid (in_is 0 0 1 true (by decide))
        rcases hpc with hk0 | ⟨hk0, hp⟩ | ⟨hk0, hp⟩
        · skip
          subst hk0
          rw [Nat.zero_mul, Nat.add_zero] at d1 d2
          have i2 : (0 : Int) < (l.length : Int) := by omega
          clear i0 i1
          rcases (show y < 1 ∨ (r : Int) < y ∨ (1 ≤ y ∧ y ≤ (r : Int)) by omega) with hy | hy | hy
          · skip
            have HN := Lib.hid (HNo.out (by omega))
            have HI2 := Lib.hid (in_is y 1 (r : Int) false (by by_cases h : (1 : Int) ≤ y <;> simp [h]; omega))
            clear HNo HYes HP hpi
            iterate 6 (try (go_wp2; go_quiet ((first | (go_at_call_of 19 (Value.int IntKind.i64 0); (first | exact quiet_add HI1.out _ _ | exact Calls.quiet_of_same (HI1.out _))) | (go_at_call_of 19 (Value.int IntKind.i64 (r : Int)); (first | exact quiet_add HI2.out _ _ | exact Calls.quiet_of_same (HI2.out _)))))))
            go_wp2
            (first | go_ret | go_ret2)
            exact lorOut_no HN.out (by first | exact HB.out | exact below_drewP _ HB.out | exact below_drewP _ (below_drewP _ HB.out) | exact below_drewP _ (below_drewP _ (below_drewP _ HB.out)))
          · skip
            have HN := Lib.hid (HNo.out (by omega))
            have hy2 : ¬ y < 1 := by omega
            have HI2 := Lib.hid (in_is y 1 (r : Int) false (by by_cases h : (1 : Int) ≤ y <;> simp [h]; omega))
            clear HNo HYes HP hpi
            iterate 6 (try (go_wp2; go_quiet ((first | (go_at_call_of 19 (Value.int IntKind.i64 0); (first | exact quiet_add HI1.out _ _ | exact Calls.quiet_of_same (HI1.out _))) | (go_at_call_of 19 (Value.int IntKind.i64 (r : Int)); (first | exact quiet_add HI2.out _ _ | exact Calls.quiet_of_same (HI2.out _)))))))
            go_wp2
            (first | go_ret | go_ret2)
            exact lorOut_no HN.out (by first | exact HB.out | exact below_drewP _ HB.out | exact below_drewP _ (below_drewP _ HB.out) | exact below_drewP _ (below_drewP _ (below_drewP _ HB.out)))
          · skip
            obtain ⟨m, rfl⟩ : ∃ m : Nat, y = (m : Int) := ⟨y.toNat, by omega⟩
            have HN := Lib.hid (HYes.out (by omega))
            rw [Int.toNat_natCast] at HN
            have HV : Hid ((⟨bb.toArray⟩ : ByteArray) ++ ⟨(reps m 48).toArray⟩ = ⟨(bb ++ List.replicate m (byteOf (0 : Int).toNat)).toArray⟩) := Lib.hid (by rw [catB]; rfl)
            have HLen : Hid ((bb ++ List.replicate m (byteOf (0 : Int).toNat)).length ≤ 200) := Lib.hid (by rw [List.length_append, List.length_replicate]; omega)
            generalize bb ++ List.replicate m (byteOf (0 : Int).toNat) = bb2 at HN HV HLen
            have SZ : (⟨(reps m 48).toArray⟩ : ByteArray).size = m := by simp [ByteArray.size, reps]
            have p1 : ¬ 9223372036854775807 < bb.length + m := by omega
            have p2 : ¬ 9223372036854775807 < bb.length + (reps m 48).length := by rw [reps, List.length_replicate]; omega
            have hy1 : ¬ (m : Int) < 1 := by omega
            have hy2 : ¬ (r : Int) < (m : Int) := by omega
            have q1 : IntKind.i64.wrap 1 = 1 := by decide
            have q2 : IntKind.i64.wrap 2 = 2 := by decide
            have q3 : (ByteArray.mk #[48, 49]).extract 0 1 = ⟨#[48]⟩ := by decide
            have HI2 := Lib.hid (in_is (m : Int) 1 (r : Int) true (by simp; omega))
            have HMn : Hid (∀ w, Calls Try.prog 20 #[.string ⟨#[48]⟩, .int .i64 (m : Int)] w fun e w' => e = .returned (.string ⟨(reps m 48).toArray⟩) ∧ w' = w) := Lib.hid fun w => by
              have := sMany_any ⟨#[48]⟩ 48 (m : Int) w rfl (by omega)
              rwa [Int.toNat_natCast] at this
            clear HNo HYes HP hpi
            iterate 8 (try (go_wp2; go_quiet ((first | (first | (go_at_call_of 19 (Value.int IntKind.i64 0); (first | exact quiet_add HI1.out _ _ | exact Calls.quiet_of_same (HI1.out _))) | (go_at_call_of 19 (Value.int IntKind.i64 (r : Int)); (first | exact quiet_add HI2.out _ _ | exact Calls.quiet_of_same (HI2.out _)))) | (go_at_call 20; (first | exact quiet_add HMn.out _ _ | exact Calls.quiet_of_same (HMn.out _)))))))
            go_wp2
            go_roundw
            case rel => exact ⟨0 + 1, bb2, by go_num, by omega, by rw [HV.out], HLen.out, HN, Lib.hid (by first | exact HB.out | exact below_drewP _ HB.out | exact below_drewP _ (below_drewP _ HB.out) | exact below_drewP _ (below_drewP _ (below_drewP _ HB.out)) | exact below_drewP _ (below_drewP _ (below_drewP _ (below_drewP _ HB.out))))⟩
            case measure => simp [intOf]; omega
        · subst hp
          obtain ⟨j, hj⟩ : ∃ j, k = j + 1 := ⟨k - 1, by omega⟩
          have d3 := HP.out hk0
          have hkj : k - 1 = j := by omega
          rw [hkj] at d3
          have t2 : (0 : Int) < (k : Int) := by omega
          have t4 : (0 : Int) ≤ (j : Int) := by omega
          have t5 : (j : Int) < (l.length : Int) := by omega
          have t6 : wrap64 ((k : Int) - 1) = (j : Int) := by rw [IntWalk.wrap64_in _ (by omega)]; omega
          have t7 : IntKind.i64.wrap ((k : Int) - 1) = (j : Int) := by rw [IntKind.wrap_i64]; omega
          have t8 : (k : Int) - 1 = (j : Int) := by omega
          have HN := Lib.hid (HNo.out (by omega))
          have HI2 := HI1
          clear HNo HYes HP hpi hj hkj
          iterate 6 (try (go_wp2; go_quiet ((first | (go_at_call_of 19 (Value.int IntKind.i64 0); (first | exact quiet_add HI1.out _ _ | exact Calls.quiet_of_same (HI1.out _))) | (go_at_call_of 19 (Value.int IntKind.i64 (r : Int)); (first | exact quiet_add HI2.out _ _ | exact Calls.quiet_of_same (HI2.out _)))))))
          go_wp2
          (first | go_ret | go_ret2)
          exact lorOut_no HN.out (by first | exact HB.out | exact below_drewP _ HB.out | exact below_drewP _ (below_drewP _ HB.out) | exact below_drewP _ (below_drewP _ (below_drewP _ HB.out)))
        · skip
          obtain ⟨j, hj⟩ : ∃ j, k = j + 1 := ⟨k - 1, by omega⟩
          have d3 := HP.out hk0
          have hkj : k - 1 = j := by omega
          rw [hkj] at d3
          have t2 : (0 : Int) < (k : Int) := by omega
          have t4 : (0 : Int) ≤ (j : Int) := by omega
          have t5 : (j : Int) < (l.length : Int) := by omega
          have t6 : wrap64 ((k : Int) - 1) = (j : Int) := by rw [IntWalk.wrap64_in _ (by omega)]; omega
          have t7 : IntKind.i64.wrap ((k : Int) - 1) = (j : Int) := by rw [IntKind.wrap_i64]; omega
          have t8 : (k : Int) - 1 = (j : Int) := by omega
          have t9 : ((0 : Int) == p) = false := beq_false_of_ne (by omega)
          have t10 : ((0 : Int) != p) = true := by rw [bne, t9]; rfl
          rcases (show y < 1 ∨ (r : Int) < y ∨ (1 ≤ y ∧ y ≤ (r : Int)) by omega) with hy | hy | hy
          · skip
            have HN := Lib.hid (HNo.out (by omega))
            have HI2 := Lib.hid (in_is y 1 (r : Int) false (by by_cases h : (1 : Int) ≤ y <;> simp [h]; omega))
            clear HNo HYes HP hpi hj hkj
            iterate 6 (try (go_wp2; go_quiet ((first | (go_at_call_of 19 (Value.int IntKind.i64 0); (first | exact quiet_add HI1.out _ _ | exact Calls.quiet_of_same (HI1.out _))) | (go_at_call_of 19 (Value.int IntKind.i64 (r : Int)); (first | exact quiet_add HI2.out _ _ | exact Calls.quiet_of_same (HI2.out _)))))))
            go_wp2
            (first | go_ret | go_ret2)
            exact lorOut_no HN.out (by first | exact HB.out | exact below_drewP _ HB.out | exact below_drewP _ (below_drewP _ HB.out) | exact below_drewP _ (below_drewP _ (below_drewP _ HB.out)))
          · skip
            have HN := Lib.hid (HNo.out (by omega))
            have hy2 : ¬ y < 1 := by omega
            have HI2 := Lib.hid (in_is y 1 (r : Int) false (by by_cases h : (1 : Int) ≤ y <;> simp [h]; omega))
            clear HNo HYes HP hpi hj hkj
            iterate 6 (try (go_wp2; go_quiet ((first | (go_at_call_of 19 (Value.int IntKind.i64 0); (first | exact quiet_add HI1.out _ _ | exact Calls.quiet_of_same (HI1.out _))) | (go_at_call_of 19 (Value.int IntKind.i64 (r : Int)); (first | exact quiet_add HI2.out _ _ | exact Calls.quiet_of_same (HI2.out _)))))))
            go_wp2
            (first | go_ret | go_ret2)
            exact lorOut_no HN.out (by first | exact HB.out | exact below_drewP _ HB.out | exact below_drewP _ (below_drewP _ HB.out) | exact below_drewP _ (below_drewP _ (below_drewP _ HB.out)))
          · skip
            obtain ⟨m, rfl⟩ : ∃ m : Nat, y = (m : Int) := ⟨y.toNat, by omega⟩
            have HN := Lib.hid (HYes.out (by omega))
            rw [Int.toNat_natCast] at HN
            have HV : Hid ((⟨bb.toArray⟩ : ByteArray) ++ ⟨(reps m 48).toArray⟩ = ⟨(bb ++ List.replicate m (byteOf (0 : Int).toNat)).toArray⟩) := Lib.hid (by rw [catB]; rfl)
            have HLen : Hid ((bb ++ List.replicate m (byteOf (0 : Int).toNat)).length ≤ 200) := Lib.hid (by rw [List.length_append, List.length_replicate]; omega)
            generalize bb ++ List.replicate m (byteOf (0 : Int).toNat) = bb2 at HN HV HLen
            have SZ : (⟨(reps m 48).toArray⟩ : ByteArray).size = m := by simp [ByteArray.size, reps]
            have p1 : ¬ 9223372036854775807 < bb.length + m := by omega
            have p2 : ¬ 9223372036854775807 < bb.length + (reps m 48).length := by rw [reps, List.length_replicate]; omega
            have hy1 : ¬ (m : Int) < 1 := by omega
            have hy2 : ¬ (r : Int) < (m : Int) := by omega
            have q1 : IntKind.i64.wrap 1 = 1 := by decide
            have q2 : IntKind.i64.wrap 2 = 2 := by decide
            have q3 : (ByteArray.mk #[48, 49]).extract 0 1 = ⟨#[48]⟩ := by decide
            have HI2 := Lib.hid (in_is (m : Int) 1 (r : Int) true (by simp; omega))
            have HMn : Hid (∀ w, Calls Try.prog 20 #[.string ⟨#[48]⟩, .int .i64 (m : Int)] w fun e w' => e = .returned (.string ⟨(reps m 48).toArray⟩) ∧ w' = w) := Lib.hid fun w => by
              have := sMany_any ⟨#[48]⟩ 48 (m : Int) w rfl (by omega)
              rwa [Int.toNat_natCast] at this
            clear HNo HYes HP hpi hj hkj
            iterate 8 (try (go_wp2; go_quiet ((first | (first | (go_at_call_of 19 (Value.int IntKind.i64 0); (first | exact quiet_add HI1.out _ _ | exact Calls.quiet_of_same (HI1.out _))) | (go_at_call_of 19 (Value.int IntKind.i64 (r : Int)); (first | exact quiet_add HI2.out _ _ | exact Calls.quiet_of_same (HI2.out _)))) | (go_at_call 20; (first | exact quiet_add HMn.out _ _ | exact Calls.quiet_of_same (HMn.out _)))))))
            go_wp2
            go_roundw
            case rel => exact ⟨k + 1, bb2, by go_num, by omega, by rw [HV.out], HLen.out, HN, Lib.hid (by first | exact HB.out | exact below_drewP _ HB.out | exact below_drewP _ (below_drewP _ HB.out) | exact below_drewP _ (below_drewP _ (below_drewP _ HB.out)) | exact below_drewP _ (below_drewP _ (below_drewP _ (below_drewP _ HB.out))))⟩
            case measure => simp [intOf]; omega
      · subst hx
        have hpc : (k = 0) ∨ (0 < k ∧ 1 = p) ∨ (0 < k ∧ 1 ≠ p) := by omega
        have HI1 := Lib.hid (in_is 1 0 1 true (by decide))
        rcases hpc with hk0 | ⟨hk0, hp⟩ | ⟨hk0, hp⟩
        · skip
          subst hk0
          rw [Nat.zero_mul, Nat.add_zero] at d1 d2
          have i2 : (0 : Int) < (l.length : Int) := by omega
          clear i0 i1
          rcases (show y < 1 ∨ (r : Int) < y ∨ (1 ≤ y ∧ y ≤ (r : Int)) by omega) with hy | hy | hy
          · skip
            have HN := Lib.hid (HNo.out (by omega))
            have HI2 := Lib.hid (in_is y 1 (r : Int) false (by by_cases h : (1 : Int) ≤ y <;> simp [h]; omega))
            clear HNo HYes HP hpi
            iterate 6 (try (go_wp2; go_quiet ((first | (go_at_call_of 19 (Value.int IntKind.i64 0); (first | exact quiet_add HI1.out _ _ | exact Calls.quiet_of_same (HI1.out _))) | (go_at_call_of 19 (Value.int IntKind.i64 (r : Int)); (first | exact quiet_add HI2.out _ _ | exact Calls.quiet_of_same (HI2.out _)))))))
            go_wp2
            (first | go_ret | go_ret2)
            exact lorOut_no HN.out (by first | exact HB.out | exact below_drewP _ HB.out | exact below_drewP _ (below_drewP _ HB.out) | exact below_drewP _ (below_drewP _ (below_drewP _ HB.out)))
          · skip
            have HN := Lib.hid (HNo.out (by omega))
            have hy2 : ¬ y < 1 := by omega
            have HI2 := Lib.hid (in_is y 1 (r : Int) false (by by_cases h : (1 : Int) ≤ y <;> simp [h]; omega))
            clear HNo HYes HP hpi
            iterate 6 (try (go_wp2; go_quiet ((first | (go_at_call_of 19 (Value.int IntKind.i64 0); (first | exact quiet_add HI1.out _ _ | exact Calls.quiet_of_same (HI1.out _))) | (go_at_call_of 19 (Value.int IntKind.i64 (r : Int)); (first | exact quiet_add HI2.out _ _ | exact Calls.quiet_of_same (HI2.out _)))))))
            go_wp2
            (first | go_ret | go_ret2)
            exact lorOut_no HN.out (by first | exact HB.out | exact below_drewP _ HB.out | exact below_drewP _ (below_drewP _ HB.out) | exact below_drewP _ (below_drewP _ (below_drewP _ HB.out)))
          · skip
            obtain ⟨m, rfl⟩ : ∃ m : Nat, y = (m : Int) := ⟨y.toNat, by omega⟩
            have HN := Lib.hid (HYes.out (by omega))
            rw [Int.toNat_natCast] at HN
            have HV : Hid ((⟨bb.toArray⟩ : ByteArray) ++ ⟨(reps m 49).toArray⟩ = ⟨(bb ++ List.replicate m (byteOf (1 : Int).toNat)).toArray⟩) := Lib.hid (by rw [catB]; rfl)
            have HLen : Hid ((bb ++ List.replicate m (byteOf (1 : Int).toNat)).length ≤ 200) := Lib.hid (by rw [List.length_append, List.length_replicate]; omega)
            generalize bb ++ List.replicate m (byteOf (1 : Int).toNat) = bb2 at HN HV HLen
            have SZ : (⟨(reps m 49).toArray⟩ : ByteArray).size = m := by simp [ByteArray.size, reps]
            have p1 : ¬ 9223372036854775807 < bb.length + m := by omega
            have p2 : ¬ 9223372036854775807 < bb.length + (reps m 49).length := by rw [reps, List.length_replicate]; omega
            have hy1 : ¬ (m : Int) < 1 := by omega
            have hy2 : ¬ (r : Int) < (m : Int) := by omega
            have q1 : IntKind.i64.wrap 1 = 1 := by decide
            have q2 : IntKind.i64.wrap 2 = 2 := by decide
            have q3 : (ByteArray.mk #[48, 49]).extract 1 2 = ⟨#[49]⟩ := by decide
            have HI2 := Lib.hid (in_is (m : Int) 1 (r : Int) true (by simp; omega))
            have HMn : Hid (∀ w, Calls Try.prog 20 #[.string ⟨#[49]⟩, .int .i64 (m : Int)] w fun e w' => e = .returned (.string ⟨(reps m 49).toArray⟩) ∧ w' = w) := Lib.hid fun w => by
              have := sMany_any ⟨#[49]⟩ 49 (m : Int) w rfl (by omega)
              rwa [Int.toNat_natCast] at this
            clear HNo HYes HP hpi
            iterate 8 (try (go_wp2; go_quiet ((first | (first | (go_at_call_of 19 (Value.int IntKind.i64 0); (first | exact quiet_add HI1.out _ _ | exact Calls.quiet_of_same (HI1.out _))) | (go_at_call_of 19 (Value.int IntKind.i64 (r : Int)); (first | exact quiet_add HI2.out _ _ | exact Calls.quiet_of_same (HI2.out _)))) | (go_at_call 20; (first | exact quiet_add HMn.out _ _ | exact Calls.quiet_of_same (HMn.out _)))))))
            go_wp2
            go_roundw
            case rel => exact ⟨0 + 1, bb2, by go_num, by omega, by rw [HV.out], HLen.out, HN, Lib.hid (by first | exact HB.out | exact below_drewP _ HB.out | exact below_drewP _ (below_drewP _ HB.out) | exact below_drewP _ (below_drewP _ (below_drewP _ HB.out)) | exact below_drewP _ (below_drewP _ (below_drewP _ (below_drewP _ HB.out))))⟩
            case measure => simp [intOf]; omega
        · subst hp
          obtain ⟨j, hj⟩ : ∃ j, k = j + 1 := ⟨k - 1, by omega⟩
          have d3 := HP.out hk0
          have hkj : k - 1 = j := by omega
          rw [hkj] at d3
          have t2 : (0 : Int) < (k : Int) := by omega
          have t4 : (0 : Int) ≤ (j : Int) := by omega
          have t5 : (j : Int) < (l.length : Int) := by omega
          have t6 : wrap64 ((k : Int) - 1) = (j : Int) := by rw [IntWalk.wrap64_in _ (by omega)]; omega
          have t7 : IntKind.i64.wrap ((k : Int) - 1) = (j : Int) := by rw [IntKind.wrap_i64]; omega
          have t8 : (k : Int) - 1 = (j : Int) := by omega
          have HN := Lib.hid (HNo.out (by omega))
          have HI2 := HI1
          clear HNo HYes HP hpi hj hkj
          iterate 6 (try (go_wp2; go_quiet ((first | (go_at_call_of 19 (Value.int IntKind.i64 0); (first | exact quiet_add HI1.out _ _ | exact Calls.quiet_of_same (HI1.out _))) | (go_at_call_of 19 (Value.int IntKind.i64 (r : Int)); (first | exact quiet_add HI2.out _ _ | exact Calls.quiet_of_same (HI2.out _)))))))
          go_wp2
          (first | go_ret | go_ret2)
          exact lorOut_no HN.out (by first | exact HB.out | exact below_drewP _ HB.out | exact below_drewP _ (below_drewP _ HB.out) | exact below_drewP _ (below_drewP _ (below_drewP _ HB.out)))
        · skip
          obtain ⟨j, hj⟩ : ∃ j, k = j + 1 := ⟨k - 1, by omega⟩
          have d3 := HP.out hk0
          have hkj : k - 1 = j := by omega
          rw [hkj] at d3
          have t2 : (0 : Int) < (k : Int) := by omega
          have t4 : (0 : Int) ≤ (j : Int) := by omega
          have t5 : (j : Int) < (l.length : Int) := by omega
          have t6 : wrap64 ((k : Int) - 1) = (j : Int) := by rw [IntWalk.wrap64_in _ (by omega)]; omega
          have t7 : IntKind.i64.wrap ((k : Int) - 1) = (j : Int) := by rw [IntKind.wrap_i64]; omega
          have t8 : (k : Int) - 1 = (j : Int) := by omega
          have t9 : ((1 : Int) == p) = false := beq_false_of_ne (by omega)
          have t10 : ((1 : Int) != p) = true := by rw [bne, t9]; rfl
          rcases (show y < 1 ∨ (r : Int) < y ∨ (1 ≤ y ∧ y ≤ (r : Int)) by omega) with hy | hy | hy
          · skip
            have HN := Lib.hid (HNo.out (by omega))
            have HI2 := Lib.hid (in_is y 1 (r : Int) false (by by_cases h : (1 : Int) ≤ y <;> simp [h]; omega))
            clear HNo HYes HP hpi hj hkj
            iterate 6 (try (go_wp2; go_quiet ((first | (go_at_call_of 19 (Value.int IntKind.i64 0); (first | exact quiet_add HI1.out _ _ | exact Calls.quiet_of_same (HI1.out _))) | (go_at_call_of 19 (Value.int IntKind.i64 (r : Int)); (first | exact quiet_add HI2.out _ _ | exact Calls.quiet_of_same (HI2.out _)))))))
            go_wp2
            (first | go_ret | go_ret2)
            exact lorOut_no HN.out (by first | exact HB.out | exact below_drewP _ HB.out | exact below_drewP _ (below_drewP _ HB.out) | exact below_drewP _ (below_drewP _ (below_drewP _ HB.out)))
          · skip
            have HN := Lib.hid (HNo.out (by omega))
            have hy2 : ¬ y < 1 := by omega
            have HI2 := Lib.hid (in_is y 1 (r : Int) false (by by_cases h : (1 : Int) ≤ y <;> simp [h]; omega))
            clear HNo HYes HP hpi hj hkj
            iterate 6 (try (go_wp2; go_quiet ((first | (go_at_call_of 19 (Value.int IntKind.i64 0); (first | exact quiet_add HI1.out _ _ | exact Calls.quiet_of_same (HI1.out _))) | (go_at_call_of 19 (Value.int IntKind.i64 (r : Int)); (first | exact quiet_add HI2.out _ _ | exact Calls.quiet_of_same (HI2.out _)))))))
            go_wp2
            (first | go_ret | go_ret2)
            exact lorOut_no HN.out (by first | exact HB.out | exact below_drewP _ HB.out | exact below_drewP _ (below_drewP _ HB.out) | exact below_drewP _ (below_drewP _ (below_drewP _ HB.out)))
          · skip
            obtain ⟨m, rfl⟩ : ∃ m : Nat, y = (m : Int) := ⟨y.toNat, by omega⟩
            have HN := Lib.hid (HYes.out (by omega))
            rw [Int.toNat_natCast] at HN
            have HV : Hid ((⟨bb.toArray⟩ : ByteArray) ++ ⟨(reps m 49).toArray⟩ = ⟨(bb ++ List.replicate m (byteOf (1 : Int).toNat)).toArray⟩) := Lib.hid (by rw [catB]; rfl)
            have HLen : Hid ((bb ++ List.replicate m (byteOf (1 : Int).toNat)).length ≤ 200) := Lib.hid (by rw [List.length_append, List.length_replicate]; omega)
            generalize bb ++ List.replicate m (byteOf (1 : Int).toNat) = bb2 at HN HV HLen
            have SZ : (⟨(reps m 49).toArray⟩ : ByteArray).size = m := by simp [ByteArray.size, reps]
            have p1 : ¬ 9223372036854775807 < bb.length + m := by omega
            have p2 : ¬ 9223372036854775807 < bb.length + (reps m 49).length := by rw [reps, List.length_replicate]; omega
            have hy1 : ¬ (m : Int) < 1 := by omega
            have hy2 : ¬ (r : Int) < (m : Int) := by omega
            have q1 : IntKind.i64.wrap 1 = 1 := by decide
            have q2 : IntKind.i64.wrap 2 = 2 := by decide
            have q3 : (ByteArray.mk #[48, 49]).extract 1 2 = ⟨#[49]⟩ := by decide
            have HI2 := Lib.hid (in_is (m : Int) 1 (r : Int) true (by simp; omega))
            have HMn : Hid (∀ w, Calls Try.prog 20 #[.string ⟨#[49]⟩, .int .i64 (m : Int)] w fun e w' => e = .returned (.string ⟨(reps m 49).toArray⟩) ∧ w' = w) := Lib.hid fun w => by
              have := sMany_any ⟨#[49]⟩ 49 (m : Int) w rfl (by omega)
              rwa [Int.toNat_natCast] at this
            clear HNo HYes HP hpi hj hkj
            iterate 8 (try (go_wp2; go_quiet ((first | (first | (go_at_call_of 19 (Value.int IntKind.i64 0); (first | exact quiet_add HI1.out _ _ | exact Calls.quiet_of_same (HI1.out _))) | (go_at_call_of 19 (Value.int IntKind.i64 (r : Int)); (first | exact quiet_add HI2.out _ _ | exact Calls.quiet_of_same (HI2.out _)))) | (go_at_call 20; (first | exact quiet_add HMn.out _ _ | exact Calls.quiet_of_same (HMn.out _)))))))
            go_wp2
            go_roundw
            case rel => exact ⟨k + 1, bb2, by go_num, by omega, by rw [HV.out], HLen.out, HN, Lib.hid (by first | exact HB.out | exact below_drewP _ HB.out | exact below_drewP _ (below_drewP _ HB.out) | exact below_drewP _ (below_drewP _ (below_drewP _ HB.out)) | exact below_drewP _ (below_drewP _ (below_drewP _ (below_drewP _ HB.out))))⟩
            case measure => simp [intOf]; omega
    · have HE : Hid (lorL l = some bb) := Lib.hid (by rw [← HL.out, lorL]; congr 1; omega)
      go_wp2
      (first | go_ret | go_ret2)
      exact lorOut_yes HE.out HB.out
end Go.Proofs.Ytijhfmjkiijhiaa
