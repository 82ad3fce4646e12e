/-
  l3Begins, l3Pairs of the model. Used by the claims on chapter 3.
-/
import Derived.Test.YtekgmdigchobbaaPairW
namespace Go.Proofs.Ytekgmdigchobbaa
open Go.RowKit
set_option linter.unusedVariables false

theorem begins_take (x y : ByteArray) (h : y.size ≤ x.size) : beginsB x y = (bl (x.extract 0 y.size) == bl y) := by
  unfold beginsB
  rw [bl_ext, List.drop_zero, Bool.eq_iff_iff, List.isPrefixOf_iff_prefix, beq_iff_eq, List.prefix_iff_eq_take, bl_len]
  exact eq_comm
theorem begins_any (x y : ByteArray) (w : World) (hx : x.size ≤ 5) (hy : y.size ≤ 5) :
    Calls Try.prog 143 #[.string x, .string y] w fun e w' => e = .returned (.bool (beginsB x y)) ∧ w' = w := by
  by_cases h : y.size ≤ x.size
  · have HR := Lib.hid (begins_take x y h)
    have h1 : (y.size : Int) ≤ (x.size : Int) := by omega
    have heq : ((x.extract 0 y.size).toList == y.toList) = beginsB x y := by
      rw [HR.out, ByteArray.toList_eq, ByteArray.toList_eq]; rfl
    go_enter Try.func143, Try.ntmps143
    go_wp2
    go_ret
    exact ⟨by first | rfl | rw [heq], rfl⟩
  · have HR : Hid (beginsB x y = false) := Lib.hid (by
      rw [Bool.eq_false_iff]
      intro e
      have := pre_le e
      rw [bl_len, bl_len] at this
      omega)
    have h1 : ¬ (y.size : Int) ≤ (x.size : Int) := by omega
    go_enter Try.func143, Try.ntmps143
    go_wp2
    go_ret
    exact ⟨by rw [HR.out]; rfl, rfl⟩

set_option maxHeartbeats 8000000 in
set_option maxRecDepth 8000 in
theorem sPairs_any (a : Option Addr) (b o c : Nat) (xs : List ByteArray) (w : World) (h : ListIn w a b o xs) (hn : xs.length ≤ 10) (hx : ∀ x ∈ xs, x.size ≤ 5) :
    Calls Try.prog 122 #[.agg #[.slice a xs.length c]] w fun e w' => (∃ a' g' c', e = .returned (.slice a' (pairsTo xs xs.length 0).length c') ∧ SrcV w' a' g' (prs (pairsTo xs xs.length 0)) ∧ (0 < (prs (pairsTo xs xs.length 0)).length → w.heap.size ≤ g') ∧ (∀ j, j < (prs (pairsTo xs xs.length 0)).length → w'.frozen? ⟨g', j, none⟩ = false)) ∧ Below w.heap.size w w' := by
  have HS := Lib.hid h
  have HX5 := Lib.hid hx
  obtain ⟨i0, hi', hz0, hz1, hz2⟩ := info_parts infoPair
  clear h hx
  have e0 : (w.alloc (.cells #[.slice a xs.length c] 26)).heap.size = w.heap.size + 1 := by simp
  have M0 : Hid (((w.alloc (.cells #[.slice a xs.length c] 26)).alloc (Obj.cells #[] 108)).ownsRow (w.heap.size + 1) 108 2 (.slice (some ⟨w.heap.size + 1, 0, none⟩) 0 0) 0 (prs [])) := Lib.hid (by
    have := World.ownsRow_made (base := w.heap.size + 1) (e := 108) (size := 2) (w.alloc (.cells #[.slice a xs.length c] 26)) #[] 0 (by simp) (by unfold maxLen; omega) rfl
    rw [e0] at this
    exact this)
  have hB1 := Lib.hid ((below_alloc w (.cells #[.slice a xs.length c] 26)).alloc (by simp) (Obj.cells #[] 108))
  have hc0 := keep_cell (w.alloc (.cells #[.slice a xs.length c] 26)) (Obj.cells #[] 108) (cell_new w (.slice a xs.length c) 26)
  have hsz0 : Hid (w.heap.size + 1 ≤ ((w.alloc (.cells #[.slice a xs.length c] 26)).alloc (Obj.cells #[] 108)).heap.size) := Lib.hid (by simp)
  go_enter Try.func122, Try.ntmps122
  go_wp2
  go_loopw [3, 4] (fun pv v wr => ∃ i : Nat, v = .int .i64 i ∧ i ≤ xs.length ∧ wr.ownsRow (w.heap.size + 1) 108 2 pv (pairsTo xs i 0).length (prs (pairsTo xs i 0)) ∧ wr.cell? ⟨w.heap.size, 0, none⟩ = some (.slice a xs.length c) ∧ Hid (Below w.heap.size w wr) ∧ Hid (w.heap.size + 1 ≤ wr.heap.size)) (fun _ v _ => xs.length - (intOf v).toNat)
  case atStart => exact ⟨0, rfl, Nat.zero_le _, M0.out, hc0, hB1, hsz0⟩
  case round =>
    obtain ⟨i, rfl, hi, hown, hc1, HB, HSz⟩ := hrel
    by_cases hlt : i < xs.length
    · obtain rfl := HS.out.src.1 (by omega)
      have hcI := (HS.out.below HB.out).src.2 i _ (List.getElem?_eq_getElem hlt)
      have HXi := Lib.hid (at0_eq (List.getElem?_eq_getElem hlt))
      have hsi := HX5.out _ (List.getElem_mem hlt)
      generalize hxi : xs[i] = xi at hcI HXi hsi
      have i1 : (0 : Int) ≤ (i : Int) := by omega
      have i2 : (i : Int) < (xs.length : Int) := by omega
      go_wp2
      go_loopw [3, 5] (fun pv v wr2 => ∃ k : Nat, v = .int .i64 k ∧ k ≤ xs.length ∧ wr2.ownsRow (w.heap.size + 1) 108 2 pv (pairsTo xs i k).length (prs (pairsTo xs i k)) ∧ wr2.cell? ⟨w.heap.size, 0, none⟩ = some (.slice (some ⟨b, o, none⟩) xs.length c) ∧ Hid (Below w.heap.size w wr2) ∧ Hid (w.heap.size + 1 ≤ wr2.heap.size)) (fun _ v _ => xs.length - (intOf v).toNat)
      case atStart => exact ⟨0, rfl, Nat.zero_le _, hown, hc1, HB, HSz⟩
      case round =>
        obtain ⟨k, rfl, hk, hown2, hc2, HB2, HSz2⟩ := hrel
        obtain ⟨av, capv, rfl⟩ := row_form hown2
        by_cases hkl : k < xs.length
        · have hcK := (HS.out.below HB2.out).src.2 k _ (List.getElem?_eq_getElem hkl)
          have HXk := Lib.hid (at0_eq (List.getElem?_eq_getElem hkl))
          have hsk := HX5.out _ (List.getElem_mem hkl)
          have hcI2 := (HS.out.below HB2.out).src.2 i _ (List.getElem?_eq_getElem hlt)
          rw [hxi] at hcI2
          generalize xs[k] = xk at hcK HXk hsk
          have HSt := Lib.hid fun w => begins_any xk xi w hsk hsi
          have HEx : Hid (beginsB xk xi = beginsB (at0 xs k) (at0 xs i)) := Lib.hid (by rw [HXk.out, HXi.out])
          have HPs := Lib.hid (pairsTo_succ xs i k)
          have hle := pairsTo_le xs k i
          have hle2 : i * xs.length ≤ 10 * 10 := Nat.mul_le_mul (by omega) (by omega)
          have k1 : (0 : Int) ≤ (k : Int) := by omega
          have k2 : (k : Int) < (xs.length : Int) := by omega
          generalize hpl : pairsTo xs i k = pl at hown2 hle HPs
          have HLt : Hid (∀ q, (Value.slice av pl.length capv).ownBlock = some q → w.heap.size + 1 ≤ q ∧ q < wr.heap.size) := Lib.hid hown2.lt
          clear hpl hown hcI
          by_cases hik : i = k
          · have HP2 : Hid (pairsTo xs i (k + 1) = pl) := Lib.hid (by rw [HPs.out, if_neg (by simp [keepQ, hik]), List.append_nil])
            have j1 : ((i : Int) == (k : Int)) = true := by simp; omega
            have j2 : ((i : Int) != (k : Int)) = false := by rw [bne, j1]; rfl
            clear hik
            go_wp2
            go_quiet (fail)
            go_wp2
            go_roundw
            case rel => exact ⟨k + 1, by go_num, by omega, by rw [HP2.out]; exact hown2, hc2, Lib.hid (HB2.out.trans ⟨rfl, rfl, rfl, Nat.le_refl _, fun _ _ => rfl⟩), HSz2⟩
            case measure => simp [intOf]; omega
          · have j1 : ((i : Int) == (k : Int)) = false := beq_false_of_ne (by omega)
            have j2 : ((i : Int) != (k : Int)) = true := by rw [bne, j1]; rfl
            by_cases hbg : beginsB (at0 xs k) (at0 xs i) = true
            · have HP2 : Hid (pairsTo xs i (k + 1) = pl ++ [(i, k)]) := Lib.hid (by rw [HPs.out, if_pos (by simp [keepQ, hik, hbg])])
              have HSt2 := Lib.hid fun w => val_eqS (v' := .bool true) (HSt.out w) (by rw [HEx.out, hbg])
              have hsz2 := HSz2.out
              have HO2 := Lib.hid hown2
              clear hik hbg
              go_wp2
              go_quiet ((go_at_call 143; exact Calls.quiet_of_same (HSt2.out _)))
              obtain ⟨W5, hW5⟩ : ∃ W5, W5 = wr.drewN nq := ⟨_, rfl⟩
              have hownd : W5.ownsRow (w.heap.size + 1) 108 2 (.slice av pl.length capv) pl.length (prs pl) := by rw [hW5]; exact HO2.out
              have hcd : W5.cell? ⟨w.heap.size, 0, none⟩ = some (.slice (some ⟨b, o, none⟩) xs.length c) := by rw [hW5]; exact hc2
              have HBd : Hid (Below w.heap.size w W5) := Lib.hid (by rw [hW5]; exact HB2.out.trans ⟨rfl, rfl, rfl, Nat.le_refl _, fun _ _ => rfl⟩)
              have hszd : w.heap.size + 1 ≤ W5.heap.size := by rw [hW5]; exact hsz2
              have HLd : Hid (∀ q, (Value.slice av pl.length capv).ownBlock = some q → w.heap.size + 1 ≤ q ∧ q < W5.heap.size) := Lib.hid hownd.lt
              rw [← hW5]
              clear hW5 hown2 hc2 hcK hcI2
              go_wp2_with (at_builtin; refine wpList_append_own _ rfl _ _ 65 rfl (w.heap.size + 1) 108 i0 (.agg #[.int .i64 0, .int .i64 0]) 2 16 Try.underlying65 hi' hz0 hz1 hz2 rfl (by decide) (.slice av pl.length capv) pl.length (prs pl) rfl (hownd.alloc _) ⟨W5.heap.size, 0, none⟩ 1 1 [.int .i64 (i : Int), .int .i64 (k : Int)] rfl rfl (cell_two_new _ _ _ _) (by simp [Value.oneCell']) (by unfold maxLen; omega) (by omega) (by simp; omega) ?_; intro v' w7 hown' hgrow _)
              have HW7 : Hid (w7.ownsRow (w.heap.size + 1) 108 2 v' (pl ++ [(i, k)]).length (prs (pl ++ [(i, k)]))) := Lib.hid (by rw [prs_snoc]; simpa using hown')
              have hc7 := Lib.hid (cell_grown hownd hcd hgrow (fun e => by have h9 := (HLd.out _ e).1; exact absurd h9 (by simp)))
              have HB7 : Hid (Below w.heap.size w w7) := Lib.hid ((HBd.out.alloc HBd.out.size _).grown hgrow (by have := HBd.out.size; simp; omega) (fun q e => by have := (HLd.out q e).1; omega))
              have HS7 : Hid (w.heap.size + 1 ≤ w7.heap.size) := Lib.hid (Nat.le_trans hszd (Nat.le_trans (by simp) hgrow.size))
              clear hown' hgrow
              all_goals (
                go_roundw
                case rel => exact ⟨k + 1, by go_num, by omega, by rw [HP2.out]; exact HW7.out, hc7.out, HB7, HS7⟩
                case measure => simp [intOf]; omega)
            · have HP2 : Hid (pairsTo xs i (k + 1) = pl) := Lib.hid (by rw [HPs.out, if_neg (by simp [keepQ, hbg]), List.append_nil])
              have HSt2 := Lib.hid fun w => val_eqS (v' := .bool false) (HSt.out w) (by rw [HEx.out]; simp [hbg])
              clear hik hbg
              go_wp2
              go_quiet ((go_at_call 143; exact Calls.quiet_of_same (HSt2.out _)))
              go_wp2
              go_roundw
              case rel => exact ⟨k + 1, by go_num, by omega, by rw [HP2.out]; exact hown2, hc2, Lib.hid (HB2.out.trans ⟨rfl, rfl, rfl, Nat.le_refl _, fun _ _ => rfl⟩), HSz2⟩
              case measure => simp [intOf]; omega
        · obtain rfl : k = xs.length := by omega
          go_wp2
          go_roundw
          case rel => exact ⟨i + 1, by go_num, by omega, by rw [← pairsTo_row]; exact hown2, hc2, HB2, HSz2⟩
          case measure => simp [intOf]; omega
    · obtain rfl : i = xs.length := by omega
      go_wp2
      go_ret
      obtain ⟨a', g', c', hv, hs', hg', hf'⟩ := seq_of_row hown
      exact ⟨⟨a', g', c', by rw [← hv]; rfl, hs', fun h => Nat.le_of_succ_le (hg' h), hf'⟩, HB.out⟩
end Go.Proofs.Ytekgmdigchobbaa
