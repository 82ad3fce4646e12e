/-
  OnAtOnce of the model; both answer alike. Used by the claims on chapter 4.
-/
import Derived.Test.YtijhfmjkiijhiaaDoorOnceL
import Derived.Deep.RegionLaw
namespace Go.Proofs.YtijhfmjkiijhiaaDoor
open Go.RowKit
set_option linter.unusedVariables false

set_option maxHeartbeats 8000000 in
set_option maxRecDepth 8000 in
theorem sOnce_any (a : Option Addr) (b o c : Nat) (xs : List ByteArray) (w : World) (h : ListIn w a b o xs) :
    Calls Tryd.prog 44 #[.slice a xs.length c] w fun e w' => SeqOut (ints (onceL xs)) (onceL xs).length (onceOk xs) w e w' := by
  obtain ⟨i0, hi', hz0, hz1, hz2⟩ := info_parts infoIntL
  by_cases h8 : xs.length ≤ 8
  rotate_left
  · have HR : Hid (onceOk xs = false) := Lib.hid (by simp [onceOk, h8])
    have HR2 : Hid (onceL xs = []) := Lib.hid (by unfold onceL; rw [HR.out]; rfl)
    rw [HR.out, HR2.out]
    have h9 : (8 : Int) < (xs.length : Int) := by omega
    clear h8 h
    go_enter Tryd.func44, Tryd.ntmps44
    go_wp2
    (first | go_ret | go_ret2)
    exact seqI_nil _ 0 0 (below_alloc _ _)
  have HS := Lib.hid h
  have HK : Hid (onceOk xs = linesB xs) := Lib.hid (by simp [onceOk, h8])
  have HL : Hid (onceL xs = if onceOk xs = true then onsTo xs (mostTo xs xs.length) else []) := Lib.hid rfl
  generalize onceOk xs = ok at HK HL ⊢
  generalize onceL xs = r at HL ⊢
  clear h
  have h9 : ¬ (8 : Int) < (xs.length : Int) := by omega
  have M0 : Hid ((w.alloc (Obj.cells #[] 3)).ownsRow w.heap.size 3 1 (.slice (some ⟨w.heap.size, 0, none⟩) 0 0) 0 (ints [])) := Lib.hid (World.ownsRow_made (base := w.heap.size) (e := 3) (size := 1) w #[] 0 (by simp) (by unfold maxLen; omega) rfl)
  have HB0 := Lib.hid (below_alloc w (Obj.cells #[] 3))
  go_enter Tryd.func44, Tryd.ntmps44
  go_wp2
  go_loopw [5, 6] (fun mv v wr => ∃ k m : Nat, v = .int .i64 k ∧ k ≤ xs.length ∧ mv = .int .i64 m ∧ m ≤ 200 ∧ Hid (m = mostTo xs k) ∧ Hid (linesB (xs.take k) = true) ∧ Hid (Below (w.alloc (Obj.cells #[] 3)).heap.size (w.alloc (Obj.cells #[] 3)) wr)) (fun _ v _ => xs.length - (intOf v).toNat)
  case atStart => exact ⟨0, 0, rfl, Nat.zero_le _, rfl, Nat.zero_le _, Lib.hid rfl, Lib.hid rfl, Lib.hid (Below.refl _ _)⟩
  case round =>
    obtain ⟨k, m, rfl, hk, rfl, hm, HM, HA, HB⟩ := hrel
    have HBw : Hid (Below w.heap.size w wr) := Lib.hid (HB0.out.trans (HB.out.mono (by simp)))
    by_cases hlt : k < xs.length
    · obtain rfl := HS.out.src.1 (by omega)
      have hcell := (HS.out.below HBw.out).src.2 k _ (List.getElem?_eq_getElem hlt)
      have hxs : (xs[k]).size ≤ 1048576 := HS.out.texts _ (List.getElem_mem hlt)
      have HNx : Hid (mostTo xs (k + 1) = if m < (xs[k]).size then (xs[k]).size else m) := Lib.hid (by rw [HM.out, ← atX_eq hlt]; rfl)
      have HAn := Lib.hid (fun h2 => lines_next hlt HA.out h2)
      have HNo := Lib.hid (fun h2 => lines_not hlt h2)
      have HMl := Lib.hid (fun h2 => mostTo_le (k + 1) hlt (HAn.out h2))
      generalize xs[k] = x at hcell hxs HNx HAn HNo HMl
      have i0' : (0 : Int) ≤ (k : Int) := by omega
      have i1 : (k : Int) < (xs.length : Int) := by omega
      cases hln : lineL (bl x)
      · have F := sLine_is x false hxs hln
        have HE : Hid (ok = false) := Lib.hid (by rw [HK.out, HNo.out hln])
        have HE2 : Hid (r = []) := Lib.hid (by rw [HL.out, HE.out]; rfl)
        clear hln HAn HNo HMl HNx
        go_wp2_with fail
        refine (F.out _).mono ?_
        rintro e w5 ⟨rfl, hb5⟩
        have HB5 : Hid (Below w.heap.size w w5) := Lib.hid (HBw.out.trans (hb5.mono HBw.out.size))
        clear hb5
        go_wp2
        (first | go_ret | go_ret2)
        rw [HE.out, HE2.out]
        exact seqI_nil _ 0 0 (HB5.out.alloc HB5.out.size _)
      · have F := sLine_is x true hxs hln
        have HA2 := Lib.hid (HAn.out hln)
        have hM2 := HMl.out hln
        have hx2 : x.size ≤ 200 := by have := line_len hln; rwa [bl_len] at this
        have HF2 := Lib.hid fun w => mostS_any (m : Int) (x.size : Int) w
        clear hln HAn HNo HMl
        have hex : ∃ n : Nat, n ≤ 200 ∧ (if (x.size : Int) < (m : Int) then (m : Int) else (x.size : Int)) = (n : Int) ∧ n = mostTo xs (k + 1) := by
          by_cases hmx : m < x.size
          · exact ⟨x.size, hx2, if_neg (by omega), by rw [HNx.out, if_pos hmx]⟩
          · refine ⟨m, hm, ?_, by rw [HNx.out, if_neg hmx]⟩
            by_cases e : (x.size : Int) < (m : Int)
            · rw [if_pos e]
            · rw [if_neg e]; omega
        obtain ⟨n, hn, hnv, hnm⟩ := hex
        rw [hnv] at HF2
        have HV : Hid (n = mostTo xs (k + 1)) := Lib.hid hnm
        clear hnv hnm HNx
        go_wp2_with fail
        refine (F.out _).mono ?_
        rintro e w5 ⟨rfl, hb5⟩
        have HB5 : Hid (Below (w.alloc (Obj.cells #[] 3)).heap.size (w.alloc (Obj.cells #[] 3)) w5) := Lib.hid (HB.out.trans (hb5.mono HB.out.size))
        have hcell5 := (hb5.cell (World.block_lt_of_cell? _ _ hcell)).trans hcell
        clear hb5 hcell
        go_wp2_with fail
        refine (HF2.out _).mono ?_
        rintro e w6 ⟨rfl, hww⟩
        obtain rfl := hww.symm
        go_wp2
        go_roundw
        case rel => exact ⟨k + 1, n, by go_num, by omega, rfl, hn, HV, HA2, HB5⟩
        case measure => simp [intOf]; omega
    · obtain ⟨W0, rfl⟩ : ∃ W0, W0 = wr := ⟨_, rfl⟩
      have hke : k = xs.length := by omega
      have HE : Hid (ok = true) := Lib.hid (by rw [HK.out]; have := HA.out; rwa [hke, List.take_length] at this)
      have HE2 : Hid (r = onsTo xs m) := Lib.hid (by rw [HL.out, HE.out, HM.out, hke]; rfl)
      have hi1 : ¬ (k : Int) < (xs.length : Int) := by omega
      have HRow : Hid (W0.ownsRow w.heap.size 3 1 (.slice (some ⟨w.heap.size, 0, none⟩) 0 0) 0 (ints [])) := Lib.hid (row_below M0.out HB.out)
      clear hke
      go_wp2
      go_loopw [4, 7] (fun pv v wr2 => ∃ i : Nat, v = .int .i64 i ∧ i ≤ m ∧ wr2.ownsRow w.heap.size 3 1 pv i (ints (onsTo xs i)) ∧ Hid (Below w.heap.size w wr2)) (fun _ v _ => m - (intOf v).toNat)
      case atStart => exact ⟨0, rfl, Nat.zero_le _, HRow.out, HBw⟩
      case round =>
        obtain ⟨i, rfl, hi, hown, HB2⟩ := hrel
        obtain ⟨av, capv, rfl⟩ := row_form hown
        by_cases hil : i < m
        · obtain ⟨W1, rfl⟩ : ∃ W1, W1 = wr := ⟨_, rfl⟩
          have j0 : (0 : Int) ≤ (i : Int) := by omega
          have j1 : (i : Int) < (m : Int) := by omega
          have HOw := Lib.hid hown
          clear hown
          go_wp2
          go_loopw [8, 9] (fun cv v3 wr3 => ∃ j y : Nat, v3 = .int .i64 j ∧ j ≤ xs.length ∧ cv = .int .i64 y ∧ y ≤ j ∧ Hid (y = cntTo xs i j) ∧ wr3 = W1) (fun _ v3 _ => xs.length - (intOf v3).toNat)
          case atStart => exact ⟨0, 0, rfl, Nat.zero_le _, rfl, Nat.zero_le _, Lib.hid rfl, rfl⟩
          case round =>
            obtain ⟨j, y, rfl, hj, rfl, hy, HY, hwr⟩ := hrel
            subst hwr
            by_cases hjl : j < xs.length
            · obtain rfl := HS.out.src.1 (by omega)
              have hcell := (HS.out.below HB2.out).src.2 j _ (List.getElem?_eq_getElem hjl)
              have hxs : (xs[j]).size ≤ 1048576 := HS.out.texts _ (List.getElem_mem hjl)
              have HNx : Hid (cntTo xs i (j + 1) = y + (if onAt (bl xs[j]) i = true then 1 else 0)) := Lib.hid (by rw [HY.out, ← atX_eq hjl]; rfl)
              generalize xs[j] = x at hcell hxs HNx
              have k0 : (0 : Int) ≤ (j : Int) := by omega
              have k1 : (j : Int) < (xs.length : Int) := by omega
              have F := Lib.hid fun w => sOn_any x i w hxs (by omega)
              cases hon : onAt (bl x) i
              · rw [hon] at F HNx
                have HRn : Hid (y = cntTo xs i (j + 1)) := Lib.hid (by rw [HNx.out]; simp)
                clear hon HNx
                go_wp2_with fail
                refine (F.out _).mono ?_
                rintro e w5 ⟨rfl, hww⟩
                obtain rfl := hww.symm
                go_wp2
                go_roundw
                case rel => exact ⟨j + 1, y, by go_num, by omega, rfl, by omega, HRn, trivial⟩
                case measure => simp [intOf]; omega
              · rw [hon] at F HNx
                have HRn : Hid (y + 1 = cntTo xs i (j + 1)) := Lib.hid (by rw [HNx.out]; simp)
                clear hon HNx
                go_wp2_with fail
                refine (F.out _).mono ?_
                rintro e w5 ⟨rfl, hww⟩
                obtain rfl := hww.symm
                go_wp2
                go_roundw
                case rel => exact ⟨j + 1, y + 1, by go_num, by omega, by go_num, by omega, HRn, trivial⟩
                case measure => simp [intOf]; omega
            · obtain rfl : j = xs.length := by omega
              have hown := HOw.out
              have HLt : Hid (∀ q, (Value.slice av i capv).ownBlock = some q → w.heap.size ≤ q ∧ q < wr.heap.size) := Lib.hid hown.lt
              have hsz2 := HB2.out.size
              have HRn : Hid (ints (onsTo xs (i + 1)) = ints (onsTo xs i) ++ [.int .i64 (y : Int)]) := Lib.hid (by rw [HY.out]; exact ints_snoc _ _)
              generalize ints (onsTo xs i) = vs at hown HRn
              go_wp2_with (at_builtin; refine wpList_append_own _ rfl _ _ 39 rfl w.heap.size 3 i0 (.int .i64 0) 1 8 Tryd.underlying39 hi' hz0 hz1 hz2 rfl (by decide) (.slice av i capv) i vs rfl (hown.alloc _) ⟨wr.heap.size, 0, none⟩ 1 1 [.int .i64 (y : Int)] rfl rfl (cell_one_newL _ _ _) (by simp [Value.oneCell']) (by unfold maxLen; omega) (by omega) (by simp; omega) ?_; intro v' w7 hown' hgrow _)
              have HW7 : Hid (w7.ownsRow w.heap.size 3 1 v' (i + 1) (ints (onsTo xs (i + 1)))) := Lib.hid (by rw [HRn.out]; exact hown')
              have HB7 : Hid (Below w.heap.size w w7) := Lib.hid ((HB2.out.alloc HB2.out.size _).grown hgrow (by have := HB2.out.size; simp; omega) (fun q e => (HLt.out q e).1))
              clear hown' hgrow hown
              go_wp2
              go_roundw
              case rel => exact ⟨i + 1, by go_num, by omega, HW7.out, HB7⟩
              case measure => simp [intOf]; omega
        · obtain rfl : i = m := by omega
          go_wp2
          (first | go_ret | go_ret2)
          rw [HE.out, HE2.out]
          have hol := onsTo_len xs i
          rw [hol]
          obtain ⟨a', g', c', hv, hs', hg', hf'⟩ := seq_of_row hown
          exact ⟨a', g', c', by rw [← hv]; rfl, hs', hg', hf', HB2.out⟩
theorem once_both (xs : List ByteArray) : ∃ (l : List Nat) (R1 : Bool), l.length ≤ 1000 ∧
    Hid (∀ W a b o c, ListIn W a b o xs → Calls Tryd.prog 44 #[.slice a xs.length c] W fun e W' => SeqOut (ints l) l.length R1 W e W') ∧
    Hid (∀ W a b o c, ListIn W a b o xs → Calls Tryd.prog 46 #[.slice a xs.length c] W fun e W' => SeqOut (ints l) l.length R1 W e W') :=
  ⟨_, _, onceL_len xs, fun W a b o c h => sOnce_any a b o c xs W h, fun W a b o c h => onceX_any a b o c xs W h⟩
end Go.Proofs.YtijhfmjkiijhiaaDoor
