/-
  LineOf, the program's and the model's: both answer alike; l4Of (the model's). Used by the claims on chapter 4.
-/
import Derived.Test.YtijhfmjkiijhiaaDoorUnitL
import Derived.Test.YtijhfmjkiijhiaaDoorRepW
import Derived.Test.YtijhfmjkiijhiaaDoorTimeB
namespace Go.Proofs.YtijhfmjkiijhiaaDoor
open Go.RowKit
set_option linter.unusedVariables false

theorem lnTo_next (s : ByteArray) (k : Nat) (h : k < s.size) : lnTo (bl s) (k + 1) = lnTo (bl s) k ++ (gapOf (bl s) k s[k] ++ beatsOf s[k]) := by
  have e : (bl s).getD k 0 = s[k] := by rw [List.getD_eq_getElem?_getD, bl_at s k h]; rfl
  rw [lnTo, e]
theorem gap_prev (s : ByteArray) (j : Nat) (c : UInt8) (h : j < s.size) : gapOf (bl s) (j + 1) c = if (isMk s[j] && isMk c) = true then [48] else [] := by
  have e : (bl s).getD j 0 = s[j] := by rw [List.getD_eq_getElem?_getD, bl_at s j h]; rfl
  unfold gapOf
  rw [Nat.add_sub_cancel, e]
  simp
theorem gap_zero (s : ByteArray) (c : UInt8) : gapOf (bl s) 0 c = [] := by simp [gapOf]
theorem pieces_len72 {s : Bs} {ps : List Bs} (h : pieces s = some ps) : s.length ≤ 72 := by
  unfold pieces at h
  split at h
  · next e => simp [e]
  · have := (fin_len _ _ _ _ h).1
    simp at this; omega
theorem four {c : UInt8} (h : isMk c = true ∨ c = 32 ∨ c = 47) : c = 46 ∨ c = 45 ∨ c = 32 ∨ c = 47 := by
  rcases h with h | h | h
  · simp only [isMk, Bool.or_eq_true, beq_iff_eq] at h
    rcases h with h | h
    · exact .inl h
    · exact .inr (.inl h)
  · exact .inr (.inr (.inl h))
  · exact .inr (.inr (.inr h))

set_option maxHeartbeats 4000000 in
theorem sOf_any (s : ByteArray) (w : World) (hs : s.size ≤ 1048576) (hsg : ∀ c ∈ bl s, isMk c = true ∨ c = 32 ∨ c = 47) :
    Calls Tryd.prog 82 #[.string s] w fun e w' => e = .returned (.string ⟨(lnL (bl s)).toArray⟩) ∧ ∃ q, w' = w.drewN q := by
  have HR : Hid (lnL (bl s) = lnTo (bl s) s.size) := Lib.hid (by rw [lnL, bl_len])
  rw [HR.out]
  have HSg : Hid (∀ k (h : k < s.size), s[k] = 46 ∨ s[k] = 45 ∨ s[k] = 32 ∨ s[k] = 47) := Lib.hid fun k h => four (hsg _ (List.mem_of_getElem? (bl_at s k h)))
  clear hsg
  go_enter Tryd.func82, Tryd.ntmps82
  go_wp2
  go_loopw [3, 4] (fun sv v wr => ∃ (k q : Nat) (l : Bs), v = .int .i64 k ∧ k ≤ s.size ∧ sv = .string ⟨l.toArray⟩ ∧ l.length ≤ 8 * k ∧ Hid (l = lnTo (bl s) k) ∧ wr = w.drewN q) (fun _ v _ => s.size - (intOf v).toNat)
  case atStart => exact ⟨0, 0, [], rfl, Nat.zero_le _, rfl, Nat.zero_le _, Lib.hid rfl, rfl⟩
  case round =>
    obtain ⟨k, q, l, rfl, hk, rfl, hl, HL, rfl⟩ := hrel
    by_cases hlt : k < s.size
    · have HN0 := Lib.hid (lnTo_next s k hlt)
      have HLe : Hid ((lnTo (bl s) (k + 1)).length ≤ 8 * (k + 1)) := Lib.hid (lnTo_le _ _)
      have HS4 := Lib.hid (HSg.out k hlt)
      have p1 : ¬ 9223372036854775807 < l.length + 1 := by omega
      have p3 : ¬ 9223372036854775807 < l.length + 3 := by omega
      have p7 : ¬ 9223372036854775807 < l.length + 7 := by omega
      have p11 : ¬ 9223372036854775807 < l.length + 1 + 1 := by omega
      have p13 : ¬ 9223372036854775807 < l.length + 1 + 3 := by omega
      have t0 : (0 : Int) ≤ (k : Int) := by omega
      have t1 : (k : Int) < (s.size : Int) := by omega

      rcases HS4.out with hc | hc | hc | hc
      · -- the sign 46
        have c0 : ((s[k].toNat : Int) == 32) = false := by rw [hc]; rfl
        have c1 : ((s[k].toNat : Int) != 32) = true := by rw [hc]; rfl
        have c2 : ((s[k].toNat : Int) == 47) = false := by rw [hc]; rfl
        have c3 : ((s[k].toNat : Int) != 47) = true := by rw [hc]; rfl
        have c4 : ((s[k].toNat : Int) == 46) = true := by rw [hc]; rfl
        have c5 : ((s[k].toNat : Int) != 46) = false := by rw [hc]; rfl
        have HBt : Hid (beatsOf s[k] = [49]) := Lib.hid (by rw [hc]; rfl)
        rcases Nat.eq_zero_or_pos k with h0 | h0
        · have HV : Hid ((⟨l.toArray⟩ : ByteArray) ++ ⟨#[49]⟩ = ⟨(lnTo (bl s) (k + 1)).toArray⟩) := Lib.hid (by
            have : gapOf (bl s) k s[k] = [] := by subst h0; exact gap_zero s _
            rw [HN0.out, this, HBt.out, ← HL.out, catB]; rfl)
          have t2 : ¬ (0 : Int) < (k : Int) := by omega
          have t3 : decide ((0 : Int) < (k : Int)) = false := by simp; omega
          clear hc HBt HN0 h0
          go_wp2
          go_roundw
          case rel => exact ⟨k + 1, _, lnTo (bl s) (k + 1), by go_num, by omega, by rw [HV.out], HLe.out, Lib.hid rfl, rfl⟩
          case measure => simp [intOf]; omega
        · obtain ⟨j, hj⟩ : ∃ j, k = j + 1 := ⟨k - 1, by omega⟩
          have hj2 : j < s.size := by omega
          have HG : Hid (gapOf (bl s) k s[k] = if (isMk s[j] && isMk s[k]) = true then [48] else []) := Lib.hid (by subst hj; exact gap_prev s j _ hj2)
          have HP4 := Lib.hid (HSg.out j hj2)
          have t2 : (0 : Int) < (k : Int) := by omega
          have t4 : (0 : Int) ≤ (j : Int) := by omega
          have t5 : (j : Int) < (s.size : Int) := by omega
          have t6 : wrap64 ((k : Int) - 1) = (j : Int) := by rw [IntWalk.wrap64_in _ (by omega)]; omega
          have t7 : IntKind.i64.wrap ((k : Int) - 1) = (j : Int) := by rw [IntKind.wrap_i64]; omega
          have t8 : (k : Int) - 1 = (j : Int) := by omega
          rcases HP4.out with hd | hd | hd | hd
          · -- behind 46
            have d0 : ((s[j].toNat : Int) == 32) = false := by rw [hd]; rfl
            have d1 : ((s[j].toNat : Int) != 32) = true := by rw [hd]; rfl
            have d2 : ((s[j].toNat : Int) == 47) = false := by rw [hd]; rfl
            have d3 : ((s[j].toNat : Int) != 47) = true := by rw [hd]; rfl
            have HV : Hid (((⟨l.toArray⟩ : ByteArray) ++ ⟨#[48]⟩ ++ ⟨#[49]⟩ : ByteArray) = ⟨(lnTo (bl s) (k + 1)).toArray⟩) := Lib.hid (by
              have e : gapOf (bl s) k s[k] = [48] := by rw [HG.out, hd, hc]; rfl
              rw [HN0.out, e, HBt.out, ← HL.out, catB, catB]; simp [bl])
            clear hc hd HBt HN0 h0 hj HG
            go_wp2
            go_roundw
            case rel => exact ⟨k + 1, _, lnTo (bl s) (k + 1), by go_num, by omega, by rw [HV.out], HLe.out, Lib.hid rfl, rfl⟩
            case measure => simp [intOf]; omega
          · -- behind 45
            have d0 : ((s[j].toNat : Int) == 32) = false := by rw [hd]; rfl
            have d1 : ((s[j].toNat : Int) != 32) = true := by rw [hd]; rfl
            have d2 : ((s[j].toNat : Int) == 47) = false := by rw [hd]; rfl
            have d3 : ((s[j].toNat : Int) != 47) = true := by rw [hd]; rfl
            have HV : Hid (((⟨l.toArray⟩ : ByteArray) ++ ⟨#[48]⟩ ++ ⟨#[49]⟩ : ByteArray) = ⟨(lnTo (bl s) (k + 1)).toArray⟩) := Lib.hid (by
              have e : gapOf (bl s) k s[k] = [48] := by rw [HG.out, hd, hc]; rfl
              rw [HN0.out, e, HBt.out, ← HL.out, catB, catB]; simp [bl])
            clear hc hd HBt HN0 h0 hj HG
            go_wp2
            go_roundw
            case rel => exact ⟨k + 1, _, lnTo (bl s) (k + 1), by go_num, by omega, by rw [HV.out], HLe.out, Lib.hid rfl, rfl⟩
            case measure => simp [intOf]; omega
          · -- behind 32
            have d0 : ((s[j].toNat : Int) == 32) = true := by rw [hd]; rfl
            have d1 : ((s[j].toNat : Int) != 32) = false := by rw [hd]; rfl
            have d2 : ((s[j].toNat : Int) == 47) = false := by rw [hd]; rfl
            have d3 : ((s[j].toNat : Int) != 47) = true := by rw [hd]; rfl
            have HV : Hid (((⟨l.toArray⟩ : ByteArray) ++ ⟨#[49]⟩ : ByteArray) = ⟨(lnTo (bl s) (k + 1)).toArray⟩) := Lib.hid (by
              have e : gapOf (bl s) k s[k] = [] := by rw [HG.out, hd, hc]; rfl
              rw [HN0.out, e, HBt.out, ← HL.out, catB]; rfl)
            clear hc hd HBt HN0 h0 hj HG
            go_wp2
            go_roundw
            case rel => exact ⟨k + 1, _, lnTo (bl s) (k + 1), by go_num, by omega, by rw [HV.out], HLe.out, Lib.hid rfl, rfl⟩
            case measure => simp [intOf]; omega
          · -- behind 47
            have d0 : ((s[j].toNat : Int) == 32) = false := by rw [hd]; rfl
            have d1 : ((s[j].toNat : Int) != 32) = true := by rw [hd]; rfl
            have d2 : ((s[j].toNat : Int) == 47) = true := by rw [hd]; rfl
            have d3 : ((s[j].toNat : Int) != 47) = false := by rw [hd]; rfl
            have HV : Hid (((⟨l.toArray⟩ : ByteArray) ++ ⟨#[49]⟩ : ByteArray) = ⟨(lnTo (bl s) (k + 1)).toArray⟩) := Lib.hid (by
              have e : gapOf (bl s) k s[k] = [] := by rw [HG.out, hd, hc]; rfl
              rw [HN0.out, e, HBt.out, ← HL.out, catB]; rfl)
            clear hc hd HBt HN0 h0 hj HG
            go_wp2
            go_roundw
            case rel => exact ⟨k + 1, _, lnTo (bl s) (k + 1), by go_num, by omega, by rw [HV.out], HLe.out, Lib.hid rfl, rfl⟩
            case measure => simp [intOf]; omega
      · -- the sign 45
        have c0 : ((s[k].toNat : Int) == 32) = false := by rw [hc]; rfl
        have c1 : ((s[k].toNat : Int) != 32) = true := by rw [hc]; rfl
        have c2 : ((s[k].toNat : Int) == 47) = false := by rw [hc]; rfl
        have c3 : ((s[k].toNat : Int) != 47) = true := by rw [hc]; rfl
        have c4 : ((s[k].toNat : Int) == 46) = false := by rw [hc]; rfl
        have c5 : ((s[k].toNat : Int) != 46) = true := by rw [hc]; rfl
        have HBt : Hid (beatsOf s[k] = [49, 49, 49]) := Lib.hid (by rw [hc]; rfl)
        rcases Nat.eq_zero_or_pos k with h0 | h0
        · have HV : Hid ((⟨l.toArray⟩ : ByteArray) ++ ⟨#[49, 49, 49]⟩ = ⟨(lnTo (bl s) (k + 1)).toArray⟩) := Lib.hid (by
            have : gapOf (bl s) k s[k] = [] := by subst h0; exact gap_zero s _
            rw [HN0.out, this, HBt.out, ← HL.out, catB]; rfl)
          have t2 : ¬ (0 : Int) < (k : Int) := by omega
          have t3 : decide ((0 : Int) < (k : Int)) = false := by simp; omega
          clear hc HBt HN0 h0
          go_wp2
          go_roundw
          case rel => exact ⟨k + 1, _, lnTo (bl s) (k + 1), by go_num, by omega, by rw [HV.out], HLe.out, Lib.hid rfl, rfl⟩
          case measure => simp [intOf]; omega
        · obtain ⟨j, hj⟩ : ∃ j, k = j + 1 := ⟨k - 1, by omega⟩
          have hj2 : j < s.size := by omega
          have HG : Hid (gapOf (bl s) k s[k] = if (isMk s[j] && isMk s[k]) = true then [48] else []) := Lib.hid (by subst hj; exact gap_prev s j _ hj2)
          have HP4 := Lib.hid (HSg.out j hj2)
          have t2 : (0 : Int) < (k : Int) := by omega
          have t4 : (0 : Int) ≤ (j : Int) := by omega
          have t5 : (j : Int) < (s.size : Int) := by omega
          have t6 : wrap64 ((k : Int) - 1) = (j : Int) := by rw [IntWalk.wrap64_in _ (by omega)]; omega
          have t7 : IntKind.i64.wrap ((k : Int) - 1) = (j : Int) := by rw [IntKind.wrap_i64]; omega
          have t8 : (k : Int) - 1 = (j : Int) := by omega
          rcases HP4.out with hd | hd | hd | hd
          · -- behind 46
            have d0 : ((s[j].toNat : Int) == 32) = false := by rw [hd]; rfl
            have d1 : ((s[j].toNat : Int) != 32) = true := by rw [hd]; rfl
            have d2 : ((s[j].toNat : Int) == 47) = false := by rw [hd]; rfl
            have d3 : ((s[j].toNat : Int) != 47) = true := by rw [hd]; rfl
            have HV : Hid (((⟨l.toArray⟩ : ByteArray) ++ ⟨#[48]⟩ ++ ⟨#[49, 49, 49]⟩ : ByteArray) = ⟨(lnTo (bl s) (k + 1)).toArray⟩) := Lib.hid (by
              have e : gapOf (bl s) k s[k] = [48] := by rw [HG.out, hd, hc]; rfl
              rw [HN0.out, e, HBt.out, ← HL.out, catB, catB]; simp [bl])
            clear hc hd HBt HN0 h0 hj HG
            go_wp2
            go_roundw
            case rel => exact ⟨k + 1, _, lnTo (bl s) (k + 1), by go_num, by omega, by rw [HV.out], HLe.out, Lib.hid rfl, rfl⟩
            case measure => simp [intOf]; omega
          · -- behind 45
            have d0 : ((s[j].toNat : Int) == 32) = false := by rw [hd]; rfl
            have d1 : ((s[j].toNat : Int) != 32) = true := by rw [hd]; rfl
            have d2 : ((s[j].toNat : Int) == 47) = false := by rw [hd]; rfl
            have d3 : ((s[j].toNat : Int) != 47) = true := by rw [hd]; rfl
            have HV : Hid (((⟨l.toArray⟩ : ByteArray) ++ ⟨#[48]⟩ ++ ⟨#[49, 49, 49]⟩ : ByteArray) = ⟨(lnTo (bl s) (k + 1)).toArray⟩) := Lib.hid (by
              have e : gapOf (bl s) k s[k] = [48] := by rw [HG.out, hd, hc]; rfl
              rw [HN0.out, e, HBt.out, ← HL.out, catB, catB]; simp [bl])
            clear hc hd HBt HN0 h0 hj HG
            go_wp2
            go_roundw
            case rel => exact ⟨k + 1, _, lnTo (bl s) (k + 1), by go_num, by omega, by rw [HV.out], HLe.out, Lib.hid rfl, rfl⟩
            case measure => simp [intOf]; omega
          · -- behind 32
            have d0 : ((s[j].toNat : Int) == 32) = true := by rw [hd]; rfl
            have d1 : ((s[j].toNat : Int) != 32) = false := by rw [hd]; rfl
            have d2 : ((s[j].toNat : Int) == 47) = false := by rw [hd]; rfl
            have d3 : ((s[j].toNat : Int) != 47) = true := by rw [hd]; rfl
            have HV : Hid (((⟨l.toArray⟩ : ByteArray) ++ ⟨#[49, 49, 49]⟩ : ByteArray) = ⟨(lnTo (bl s) (k + 1)).toArray⟩) := Lib.hid (by
              have e : gapOf (bl s) k s[k] = [] := by rw [HG.out, hd, hc]; rfl
              rw [HN0.out, e, HBt.out, ← HL.out, catB]; rfl)
            clear hc hd HBt HN0 h0 hj HG
            go_wp2
            go_roundw
            case rel => exact ⟨k + 1, _, lnTo (bl s) (k + 1), by go_num, by omega, by rw [HV.out], HLe.out, Lib.hid rfl, rfl⟩
            case measure => simp [intOf]; omega
          · -- behind 47
            have d0 : ((s[j].toNat : Int) == 32) = false := by rw [hd]; rfl
            have d1 : ((s[j].toNat : Int) != 32) = true := by rw [hd]; rfl
            have d2 : ((s[j].toNat : Int) == 47) = true := by rw [hd]; rfl
            have d3 : ((s[j].toNat : Int) != 47) = false := by rw [hd]; rfl
            have HV : Hid (((⟨l.toArray⟩ : ByteArray) ++ ⟨#[49, 49, 49]⟩ : ByteArray) = ⟨(lnTo (bl s) (k + 1)).toArray⟩) := Lib.hid (by
              have e : gapOf (bl s) k s[k] = [] := by rw [HG.out, hd, hc]; rfl
              rw [HN0.out, e, HBt.out, ← HL.out, catB]; rfl)
            clear hc hd HBt HN0 h0 hj HG
            go_wp2
            go_roundw
            case rel => exact ⟨k + 1, _, lnTo (bl s) (k + 1), by go_num, by omega, by rw [HV.out], HLe.out, Lib.hid rfl, rfl⟩
            case measure => simp [intOf]; omega
      · -- the sign 32
        have c0 : ((s[k].toNat : Int) == 32) = true := by rw [hc]; rfl
        have c1 : ((s[k].toNat : Int) != 32) = false := by rw [hc]; rfl
        have c2 : ((s[k].toNat : Int) == 47) = false := by rw [hc]; rfl
        have c3 : ((s[k].toNat : Int) != 47) = true := by rw [hc]; rfl
        have c4 : ((s[k].toNat : Int) == 46) = false := by rw [hc]; rfl
        have c5 : ((s[k].toNat : Int) != 46) = true := by rw [hc]; rfl
        have HBt : Hid (beatsOf s[k] = [48, 48, 48]) := Lib.hid (by rw [hc]; rfl)
        have HG : Hid (gapOf (bl s) k s[k] = []) := Lib.hid (by unfold gapOf; rw [hc]; rw [show isMk 32 = false from rfl, Bool.and_false]; rfl)
        have HV : Hid ((⟨l.toArray⟩ : ByteArray) ++ ⟨#[48, 48, 48]⟩ = ⟨(lnTo (bl s) (k + 1)).toArray⟩) := Lib.hid (by rw [HN0.out, HG.out, HBt.out, ← HL.out, catB]; rfl)
        clear hc HG HBt HN0
        go_wp2
        go_roundw
        case rel => exact ⟨k + 1, _, lnTo (bl s) (k + 1), by go_num, by omega, by rw [HV.out], HLe.out, Lib.hid rfl, rfl⟩
        case measure => simp [intOf]; omega
      · -- the sign 47
        have c0 : ((s[k].toNat : Int) == 32) = false := by rw [hc]; rfl
        have c1 : ((s[k].toNat : Int) != 32) = true := by rw [hc]; rfl
        have c2 : ((s[k].toNat : Int) == 47) = true := by rw [hc]; rfl
        have c3 : ((s[k].toNat : Int) != 47) = false := by rw [hc]; rfl
        have c4 : ((s[k].toNat : Int) == 46) = false := by rw [hc]; rfl
        have c5 : ((s[k].toNat : Int) != 46) = true := by rw [hc]; rfl
        have HBt : Hid (beatsOf s[k] = [48, 48, 48, 48, 48, 48, 48]) := Lib.hid (by rw [hc]; rfl)
        have HG : Hid (gapOf (bl s) k s[k] = []) := Lib.hid (by unfold gapOf; rw [hc]; rw [show isMk 47 = false from rfl, Bool.and_false]; rfl)
        have HV : Hid ((⟨l.toArray⟩ : ByteArray) ++ ⟨#[48, 48, 48, 48, 48, 48, 48]⟩ = ⟨(lnTo (bl s) (k + 1)).toArray⟩) := Lib.hid (by rw [HN0.out, HG.out, HBt.out, ← HL.out, catB]; rfl)
        clear hc HG HBt HN0
        go_wp2
        go_roundw
        case rel => exact ⟨k + 1, _, lnTo (bl s) (k + 1), by go_num, by omega, by rw [HV.out], HLe.out, Lib.hid rfl, rfl⟩
        case measure => simp [intOf]; omega
    · have HE : Hid (lnTo (bl s) s.size = l) := Lib.hid (by rw [HL.out]; congr 1; omega)
      clear hl
      go_wp2
      (first | go_ret | go_ret2)
      exact ⟨by first | (rw [HE.out]; rfl) | rw [HE.out], q, rfl⟩

/-! ### The program's -/
theorem cat2 (l : Bs) (a b : Bs) : (⟨l.toArray⟩ : ByteArray) ++ ⟨a.toArray⟩ ++ ⟨b.toArray⟩ = ⟨(l ++ (a ++ b)).toArray⟩ := by rw [catB, catB]; simp [bl]
theorem cat1 (l : Bs) (a : Bs) : (⟨l.toArray⟩ : ByteArray) ++ ⟨a.toArray⟩ = ⟨(l ++ a).toArray⟩ := by rw [catB]; simp [bl]
theorem rep_size (n : Nat) (c : UInt8) : (⟨(reps n c).toArray⟩ : ByteArray).size = n := by simp [ByteArray.size, reps]
def beatT (b : Bool) : ByteArray := if b = true then ⟨#[49]⟩ else ⟨#[48]⟩
theorem prevMk_at (s : ByteArray) (k : Nat) (h : k < s.size) : prevMk (bl s) (k + 1) = isMk s[k] := by
  have e : (bl s).getD k 0 = s[k] := by rw [List.getD_eq_getElem?_getD, bl_at s k h]; rfl
  unfold prevMk
  rw [Nat.add_sub_cancel, e]
  simp
theorem gap_is (s : Bs) (k : Nat) (c : UInt8) : gapOf s k c = if (prevMk s k && isMk c) = true then [48] else [] := rfl

set_option maxHeartbeats 8000000 in
theorem lineOf_yes (s : ByteArray) (w : World) (hs : s.size ≤ 1048576) (h : lineOk (bl s) = true) :
    Calls Tryd.prog 56 #[.string s] w fun e w' => e = .returned (.tuple #[.string ⟨(lnL (bl s)).toArray⟩, .bool true]) ∧ Below w.heap.size w w' := by
  have h' := h
  simp only [lineOk, Bool.and_eq_true, decide_eq_true_eq] at h'
  obtain ⟨hsig, htm⟩ := h'
  have F : Hid (∀ w, Calls Tryd.prog 83 #[.string s] w fun e w' => e = .returned (.tuple #[.int .i64 ((tmGo false (bl s) : Nat) : Int), .bool true]) ∧ Below w.heap.size w w') := Lib.hid fun w => (timeSig_any s w hs).mono fun e w' ⟨h1, h2⟩ => ⟨by
    rw [h1]
    have : timeR s = (((tmGo false (bl s) : Nat) : Int), true) := if_pos hsig
    rw [this], h2⟩
  have ht2 : ¬ (200 : Int) < ((tmGo false (bl s) : Nat) : Int) := by omega
  obtain ⟨ps, hps⟩ := Option.isSome_iff_exists.1 hsig
  have HSg := Lib.hid (pieces_signs hps)
  have HR : Hid (lnL (bl s) = lnTo (bl s) s.size) := Lib.hid (by rw [lnL, bl_len])
  rw [HR.out]
  generalize tmGo false (bl s) = tm at F ht2 htm
  clear h hsig hps
  go_enter Tryd.func56, Tryd.ntmps56
  go_wp2_with fail
  refine (F.out _).mono ?_
  rintro e w1 ⟨rfl, hb⟩
  have HB1 := Lib.hid hb
  clear hb
  go_wp2
  clear ht2 htm
  go_loopw [6, 7] (fun sv v wr => ∃ (pos bf : Nat) (l : Bs), sv = .string ⟨l.toArray⟩ ∧ v = .int .i32 bf ∧ bf ≤ 2147483647 ∧ wr.heap[w1.heap.size]? = some (.stringIter s pos) ∧ pos ≤ s.size ∧ Hid (Below w1.heap.size w1 wr) ∧ l.length ≤ 8 * pos ∧ Hid (l = lnTo (bl s) pos) ∧ Hid (decide (bf = 46 ∨ bf = 45) = prevMk (bl s) pos)) (fun _ _ wr => s.size - wr.iterPos w1.heap.size)
  case atStart => exact ⟨0, 32, [], rfl, rfl, by omega, World.iter_heap w1 s 0, Nat.zero_le _, (Below.refl _ _).alloc (Nat.le_refl _) _, Nat.zero_le _, Lib.hid rfl, Lib.hid (by simp [prevMk])⟩
  case round =>
    obtain ⟨pos, bf, l, rfl, rfl, hbf, hit, hp, HB, hl, HL, HPm⟩ := hrel
    have HP := Lib.hid (iterPos_of hit)
    by_cases hlt : pos < s.size
    · obtain ⟨r, wd, hde, hr, hwd, hcase⟩ := sign_at s pos hlt
      have hnx : ∀ ty, (Instr.next (.pointer (some ⟨w1.heap.size, 0, none⟩)) true ty).run Tryd.prog wr = _ := fun ty => Lib.run_next_any_at wr w1.heap.size s pos ty hit hlt
      have hit2 := Lib.iterAt_heap wr w1.heap.size s pos (pos + wd) hit
      have HB2 : Hid (Below w1.heap.size w1 (wr.iterAt w1.heap.size s (pos + wd))) := Lib.hid (Lib.below_iterAt HB.out (k := w1.heap.size) (Nat.le_refl _) s (pos + wd))
      rw [hde] at hnx
      simp only at hnx
      have HBy := Lib.hid (bl_at s pos hlt)
      have HS := Lib.hid (HSg.out _ (List.mem_of_getElem? HBy.out))
      have HC : Hid (r = s[pos].toNat ∧ wd = 1) := Lib.hid (by
        rcases hcase with ⟨_, h2, h3⟩ | ⟨_, h2⟩
        · exact ⟨h2, h3⟩
        · exfalso
          rcases HS.out with h | h | h
          · rw [mk_iff] at h; simp only [decide_eq_true_eq] at h; omega
          · rw [h] at h2; exact absurd h2 (by decide)
          · rw [h] at h2; exact absurd h2 (by decide))
      obtain ⟨W1, hW1⟩ : ∃ W1, W1 = wr.iterAt w1.heap.size s (pos + wd) := ⟨_, rfl⟩
      rw [← hW1] at hnx hit2 HB2
      have HIb := Lib.hid fun w => isMark_at bf hbf w
      have HIs := Lib.hid fun w => isMark_at r hr w
      have HT := Lib.hid fun w => timeSign_at r hr w
      have hsg7 : sgR r ≤ 7 := by
        unfold sgR
        repeat' split
        all_goals omega
      obtain ⟨z, hz⟩ : ∃ z, z = sgR r := ⟨_, rfl⟩
      have HZ : Hid (z = sg s[pos]) := Lib.hid (by rw [hz, HC.out.1, sgR_sg])
      rw [← hz] at hsg7
      have HT2 := Lib.hid fun w => val_eqS (v' := .int .i64 z) (HT.out w) (by rw [hz])
      have HWd := Lib.hid hwd
      have HPl : Hid (pos + wd = pos + 1) := Lib.hid (by have := HC.out.2; omega)
      have HN0 := Lib.hid (lnTo_next s pos hlt)
      have HLe : Hid ((lnTo (bl s) (pos + 1)).length ≤ 8 * (pos + 1)) := Lib.hid (lnTo_le _ _)
      have HPn : Hid (decide (r = 46 ∨ r = 45) = prevMk (bl s) (pos + 1)) := Lib.hid (by rw [prevMk_at s pos hlt, mk_iff, HC.out.1])
      have HMk : Hid (isMk s[pos] = decide (r = 46 ∨ r = 45)) := Lib.hid (by rw [mk_iff, HC.out.1])
      have HLt : Hid (pos + wd ≤ s.size) := Lib.hid (by have := HC.out.2; omega)
      have R48 := Lib.hid fun w => repeat_any ⟨#[48]⟩ 48 1 w rfl (by omega)
      have S48 := Lib.hid (rep_size 1 48)
      have HG0 := Lib.hid (gap_is (bl s) pos s[pos])
      have HBt : Hid (beatsOf s[pos] = List.replicate z (if decide (r = 46 ∨ r = 45) = true then 49 else 48)) := Lib.hid (by unfold beatsOf; rw [← HZ.out, HMk.out])
      clear hW1 hit hde hcase hwd hz HT HBy HS

      by_cases hb : bf = 46 ∨ bf = 45
      · have HIb2 := Lib.hid fun w => val_eqS (v' := .bool true) (HIb.out w) (by simp [hb])
        by_cases hm : r = 46 ∨ r = 45
        · have HIs2 := Lib.hid fun w => val_eqS (v' := .bool true) (HIs.out w) (by simp [hm])
          have RZ := Lib.hid fun w => repeat_any ⟨#[49]⟩ 49 z w rfl (by omega)
          have SZ := Lib.hid (rep_size z 49)
          have HV : Hid ((⟨l.toArray⟩ : ByteArray) ++ ⟨(reps 1 48).toArray⟩ ++ ⟨(reps z 49).toArray⟩ = ⟨(lnTo (bl s) (pos + 1)).toArray⟩) := Lib.hid (by
            have e1 : gapOf (bl s) pos s[pos] = [48] := by
              rw [HG0.out, ← HPm.out, HMk.out]; simp [hb, hm]
            have e2 : beatsOf s[pos] = List.replicate z 49 := by rw [HBt.out]; simp [hm]
            rw [HN0.out, e1, e2, ← HL.out, cat2]; rfl)
          clear hb hm HIb HIs HN0 HG0 HBt HPm
          generalize hT0 : (⟨(reps 1 48).toArray⟩ : ByteArray) = T0 at R48 S48 HV
          generalize hT1 : (⟨(reps z 49).toArray⟩ : ByteArray) = T1 at RZ SZ HV
          have z0 : T0.size = 1 := S48.out
          have z1 : T1.size = z := SZ.out
          have p1 : ¬ 9223372036854775807 < l.length + T0.size := by omega
          have p2 : ¬ 9223372036854775807 < l.length + T0.size + T1.size := by omega
          clear hT0 hT1 z0 z1
          go_wp2_with fail
          refine (HIb2.out _).mono ?_
          rintro e w2 ⟨rfl, hww⟩
          obtain rfl := hww.symm
          go_wp2_with fail
          refine (HIs2.out _).mono ?_
          rintro e w2 ⟨rfl, hww⟩
          obtain rfl := hww.symm
          go_wp2_with fail
          refine (R48.out _).mono ?_
          rintro e w3 ⟨rfl, hb3⟩
          have HB3 := Lib.hid (HB2.out.trans (hb3.mono HB2.out.size))
          have hit3 := (hb3.block w1.heap.size (Array.getElem?_eq_some_iff.1 hit2).1).trans hit2
          clear hb3
          go_wp2_with fail
          refine (HIs2.out _).mono ?_
          rintro e w4 ⟨rfl, hww⟩
          obtain rfl := hww.symm
          go_wp2_with fail
          refine (HT2.out _).mono ?_
          rintro e w4 ⟨rfl, hww⟩
          obtain rfl := hww.symm
          go_wp2_with fail
          refine (RZ.out _).mono ?_
          rintro e w5 ⟨rfl, hb5⟩
          have HB5 := Lib.hid (HB3.out.trans (hb5.mono HB3.out.size))
          have hit5 := (hb5.block w1.heap.size (Array.getElem?_eq_some_iff.1 hit3).1).trans hit3
          clear hb5 hit3
          go_wp2
          go_roundw
          case rel => exact ⟨pos + wd, r, lnTo (bl s) (pos + 1), by rw [HV.out], rfl, by omega, hit5, HLt.out, HB5, by rw [HPl.out]; exact HLe.out, Lib.hid (by rw [HPl.out]), Lib.hid (by rw [HPl.out]; exact HPn.out)⟩
          case measure => rw [iterPos_of hit5, HP.out]; have := HWd.out; omega
        · have HIs2 := Lib.hid fun w => val_eqS (v' := .bool false) (HIs.out w) (by simp [hm])
          have RZ := Lib.hid fun w => repeat_any ⟨#[48]⟩ 48 z w rfl (by omega)
          have SZ := Lib.hid (rep_size z 48)
          have HV : Hid ((⟨l.toArray⟩ : ByteArray) ++ ⟨(reps z 48).toArray⟩ = ⟨(lnTo (bl s) (pos + 1)).toArray⟩) := Lib.hid (by
            have e1 : gapOf (bl s) pos s[pos] = [] := by
              rw [HG0.out, ← HPm.out, HMk.out]; simp [hb, hm]
            have e2 : beatsOf s[pos] = List.replicate z 48 := by rw [HBt.out]; simp [hm]
            rw [HN0.out, e1, e2, ← HL.out, cat1]; rfl)
          clear hb hm HIb HIs HN0 HG0 HBt HPm
          generalize hT1 : (⟨(reps z 48).toArray⟩ : ByteArray) = T1 at RZ SZ HV
          have z1 : T1.size = z := SZ.out
          have p2 : ¬ 9223372036854775807 < l.length + T1.size := by omega
          clear hT1 z1
          go_wp2_with fail
          refine (HIb2.out _).mono ?_
          rintro e w2 ⟨rfl, hww⟩
          obtain rfl := hww.symm
          go_wp2_with fail
          refine (HIs2.out _).mono ?_
          rintro e w2 ⟨rfl, hww⟩
          obtain rfl := hww.symm
          go_wp2_with fail
          refine (HIs2.out _).mono ?_
          rintro e w4 ⟨rfl, hww⟩
          obtain rfl := hww.symm
          go_wp2_with fail
          refine (HT2.out _).mono ?_
          rintro e w4 ⟨rfl, hww⟩
          obtain rfl := hww.symm
          go_wp2_with fail
          refine (RZ.out _).mono ?_
          rintro e w5 ⟨rfl, hb5⟩
          have HB5 := Lib.hid (HB2.out.trans (hb5.mono HB2.out.size))
          have hit5 := (hb5.block w1.heap.size (Array.getElem?_eq_some_iff.1 hit2).1).trans hit2
          clear hb5 
          go_wp2
          go_roundw
          case rel => exact ⟨pos + wd, r, lnTo (bl s) (pos + 1), by rw [HV.out], rfl, by omega, hit5, HLt.out, HB5, by rw [HPl.out]; exact HLe.out, Lib.hid (by rw [HPl.out]), Lib.hid (by rw [HPl.out]; exact HPn.out)⟩
          case measure => rw [iterPos_of hit5, HP.out]; have := HWd.out; omega
      · have HIb2 := Lib.hid fun w => val_eqS (v' := .bool false) (HIb.out w) (by simp [hb])
        by_cases hm : r = 46 ∨ r = 45
        · have HIs2 := Lib.hid fun w => val_eqS (v' := .bool true) (HIs.out w) (by simp [hm])
          have RZ := Lib.hid fun w => repeat_any ⟨#[49]⟩ 49 z w rfl (by omega)
          have SZ := Lib.hid (rep_size z 49)
          have HV : Hid ((⟨l.toArray⟩ : ByteArray) ++ ⟨(reps z 49).toArray⟩ = ⟨(lnTo (bl s) (pos + 1)).toArray⟩) := Lib.hid (by
            have e1 : gapOf (bl s) pos s[pos] = [] := by
              rw [HG0.out, ← HPm.out, HMk.out]; simp [hb, hm]
            have e2 : beatsOf s[pos] = List.replicate z 49 := by rw [HBt.out]; simp [hm]
            rw [HN0.out, e1, e2, ← HL.out, cat1]; rfl)
          clear hb hm HIb HIs HN0 HG0 HBt HPm
          generalize hT1 : (⟨(reps z 49).toArray⟩ : ByteArray) = T1 at RZ SZ HV
          have z1 : T1.size = z := SZ.out
          have p2 : ¬ 9223372036854775807 < l.length + T1.size := by omega
          clear hT1 z1
          go_wp2_with fail
          refine (HIb2.out _).mono ?_
          rintro e w2 ⟨rfl, hww⟩
          obtain rfl := hww.symm
          go_wp2_with fail
          refine (HIs2.out _).mono ?_
          rintro e w4 ⟨rfl, hww⟩
          obtain rfl := hww.symm
          go_wp2_with fail
          refine (HT2.out _).mono ?_
          rintro e w4 ⟨rfl, hww⟩
          obtain rfl := hww.symm
          go_wp2_with fail
          refine (RZ.out _).mono ?_
          rintro e w5 ⟨rfl, hb5⟩
          have HB5 := Lib.hid (HB2.out.trans (hb5.mono HB2.out.size))
          have hit5 := (hb5.block w1.heap.size (Array.getElem?_eq_some_iff.1 hit2).1).trans hit2
          clear hb5 
          go_wp2
          go_roundw
          case rel => exact ⟨pos + wd, r, lnTo (bl s) (pos + 1), by rw [HV.out], rfl, by omega, hit5, HLt.out, HB5, by rw [HPl.out]; exact HLe.out, Lib.hid (by rw [HPl.out]), Lib.hid (by rw [HPl.out]; exact HPn.out)⟩
          case measure => rw [iterPos_of hit5, HP.out]; have := HWd.out; omega
        · have HIs2 := Lib.hid fun w => val_eqS (v' := .bool false) (HIs.out w) (by simp [hm])
          have RZ := Lib.hid fun w => repeat_any ⟨#[48]⟩ 48 z w rfl (by omega)
          have SZ := Lib.hid (rep_size z 48)
          have HV : Hid ((⟨l.toArray⟩ : ByteArray) ++ ⟨(reps z 48).toArray⟩ = ⟨(lnTo (bl s) (pos + 1)).toArray⟩) := Lib.hid (by
            have e1 : gapOf (bl s) pos s[pos] = [] := by
              rw [HG0.out, ← HPm.out, HMk.out]; simp [hb, hm]
            have e2 : beatsOf s[pos] = List.replicate z 48 := by rw [HBt.out]; simp [hm]
            rw [HN0.out, e1, e2, ← HL.out, cat1]; rfl)
          clear hb hm HIb HIs HN0 HG0 HBt HPm
          generalize hT1 : (⟨(reps z 48).toArray⟩ : ByteArray) = T1 at RZ SZ HV
          have z1 : T1.size = z := SZ.out
          have p2 : ¬ 9223372036854775807 < l.length + T1.size := by omega
          clear hT1 z1
          go_wp2_with fail
          refine (HIb2.out _).mono ?_
          rintro e w2 ⟨rfl, hww⟩
          obtain rfl := hww.symm
          go_wp2_with fail
          refine (HIs2.out _).mono ?_
          rintro e w4 ⟨rfl, hww⟩
          obtain rfl := hww.symm
          go_wp2_with fail
          refine (HT2.out _).mono ?_
          rintro e w4 ⟨rfl, hww⟩
          obtain rfl := hww.symm
          go_wp2_with fail
          refine (RZ.out _).mono ?_
          rintro e w5 ⟨rfl, hb5⟩
          have HB5 := Lib.hid (HB2.out.trans (hb5.mono HB2.out.size))
          have hit5 := (hb5.block w1.heap.size (Array.getElem?_eq_some_iff.1 hit2).1).trans hit2
          clear hb5 
          go_wp2
          go_roundw
          case rel => exact ⟨pos + wd, r, lnTo (bl s) (pos + 1), by rw [HV.out], rfl, by omega, hit5, HLt.out, HB5, by rw [HPl.out]; exact HLe.out, Lib.hid (by rw [HPl.out]), Lib.hid (by rw [HPl.out]; exact HPn.out)⟩
          case measure => rw [iterPos_of hit5, HP.out]; have := HWd.out; omega
    · have hnx : ∀ ty, (Instr.next (.pointer (some ⟨w1.heap.size, 0, none⟩)) true ty).run Tryd.prog wr = _ := fun ty => Lib.run_next_end_at wr w1.heap.size s pos ty hit hlt
      have HE : Hid (lnTo (bl s) s.size = l) := Lib.hid (by rw [HL.out]; congr 1; omega)
      have HBE := Lib.hid (HB1.out.trans (HB.out.mono HB1.out.size))
      clear hl
      go_wp2
      (first | go_ret | go_ret2)
      exact ⟨by first | (rw [HE.out]; rfl) | rw [HE.out], HBE.out⟩

theorem lineOf_no (s : ByteArray) (w : World) (hs : s.size ≤ 1048576) (h : lineOk (bl s) = false) :
    Calls Tryd.prog 56 #[.string s] w fun e w' => e = .returned (.tuple #[.string ByteArray.empty, .bool false]) ∧ Below w.heap.size w w' := by
  have F0 := fun w => timeSig_any s w hs
  cases hsig : (pieces (bl s)).isSome
  · have F : Hid (∀ w, Calls Tryd.prog 83 #[.string s] w fun e w' => e = .returned (.tuple #[.int .i64 0, .bool false]) ∧ Below w.heap.size w w') := Lib.hid fun w => (F0 w).mono fun e w' ⟨h1, h2⟩ => ⟨by
      rw [h1]
      have : timeR s = (0, false) := if_neg (by rw [hsig]; simp)
      rw [this], h2⟩
    clear h F0 hsig
    go_enter Tryd.func56, Tryd.ntmps56
    go_wp2_with fail
    refine (F.out _).mono ?_
    rintro e w1 ⟨rfl, hb⟩
    have HB1 := Lib.hid hb
    clear hb
    go_wp2
    (first | go_ret | go_ret2)
    exact ⟨rfl, HB1.out⟩
  · have F : Hid (∀ w, Calls Tryd.prog 83 #[.string s] w fun e w' => e = .returned (.tuple #[.int .i64 ((tmGo false (bl s) : Nat) : Int), .bool true]) ∧ Below w.heap.size w w') := Lib.hid fun w => (F0 w).mono fun e w' ⟨h1, h2⟩ => ⟨by
      rw [h1]
      have : timeR s = (((tmGo false (bl s) : Nat) : Int), true) := if_pos hsig
      rw [this], h2⟩
    have ht2 : (200 : Int) < ((tmGo false (bl s) : Nat) : Int) := by
      have h3 : ¬ tmGo false (bl s) ≤ 200 := fun h4 => by
        rw [lineOk, hsig, decide_eq_true h4] at h
        exact absurd h (by decide)
      omega
    generalize tmGo false (bl s) = tm at F ht2
    clear h F0 hsig
    go_enter Tryd.func56, Tryd.ntmps56
    go_wp2_with fail
    refine (F.out _).mono ?_
    rintro e w1 ⟨rfl, hb⟩
    have HB1 := Lib.hid hb
    clear hb
    go_wp2
    (first | go_ret | go_ret2)
    exact ⟨rfl, HB1.out⟩

/-! ### The model's LineOf -/
end Go.Proofs.YtijhfmjkiijhiaaDoor
