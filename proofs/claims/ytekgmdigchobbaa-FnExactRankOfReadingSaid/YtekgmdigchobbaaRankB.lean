/-
  RankOfReading, the model's; both answer alike. Used by the claims on chapter 3.
-/
import Derived.Test.YtekgmdigchobbaaRankW
namespace Go.Proofs.Ytekgmdigchobbaa
open Go.RowKit
set_option linter.unusedVariables false

set_option maxHeartbeats 4000000 in
set_option maxRecDepth 4000 in
theorem sLetters_any (a : Option Addr) (b o c : Nat) (xs : List ByteArray) (m : ByteArray) (w : World) (h1n : 1 ≤ xs.length) (hln : xs.length ≤ 10) (hs : m.size ≤ 40) :
    Calls Try.prog 109 #[.agg #[.slice a xs.length c], .string m] w fun e w' => e = .returned (.bool (lettersB xs m)) ∧ Below w.heap.size w w' := by
  go_enter Try.func109, Try.ntmps109
  go_wp2
  have hb0 := below_alloc w (.cells #[.slice a xs.length c] 26)
  have hc0 := cell_new w (.slice a xs.length c) 26
  generalize (w.alloc (.cells #[.slice a xs.length c] 26)) = W0 at hb0 hc0 ⊢
  have HB0 := Lib.hid hb0
  have HC0 := Lib.hid hc0
  clear hb0 hc0
  go_loopw [5] (fun v wr => ∃ k : Nat, v = .int .i64 k ∧ k ≤ m.size ∧ Hid (∃ q, wr = W0.drewN q) ∧ Hid (((bl m).take k).all (inRow xs.length) = true)) (fun v _ => m.size - (intOf v).toNat)
  case atStart => exact ⟨0, rfl, Nat.zero_le _, Lib.hid ⟨0, rfl⟩, Lib.hid (by simp)⟩
  case round =>
    obtain ⟨k, rfl, hk, HW, HA⟩ := hrel
    have hc1 : wr.cell? ⟨w.heap.size, 0, none⟩ = some (.slice a xs.length c) := by obtain ⟨q, rfl⟩ := HW.out; exact HC0.out
    have HBw : Hid (Below w.heap.size w wr) := Lib.hid (by obtain ⟨q, rfl⟩ := HW.out; exact HB0.out.trans ⟨rfl, rfl, rfl, Nat.le_refl _, fun _ _ => rfl⟩)
    by_cases hlt : k < m.size
    · have HBy := Lib.hid (bl_at m k hlt)
      have i0 : (0 : Int) ≤ (k : Int) := by omega
      have i1 : (k : Int) < (m.size : Int) := by omega
      have HIn := Lib.hid fun w => in_any ((m[k].toNat : Int) - 97) 0 ((xs.length : Int) - 1) w
      have hby : m[k].toNat < 256 := m[k].toNat_lt
      have q1 : IntKind.i64.wrap (m[k].toNat : Int) = (m[k].toNat : Int) := by rw [IntKind.wrap_i64]; omega
      have q2 : IntKind.i64.wrap ((m[k].toNat : Int) - 97) = (m[k].toNat : Int) - 97 := by rw [IntKind.wrap_i64]; omega
      have q3 : wrap64 (m[k].toNat : Int) = (m[k].toNat : Int) := IntWalk.wrap64_in _ (by omega)
      have q4 : wrap64 ((m[k].toNat : Int) - 97) = (m[k].toNat : Int) - 97 := IntWalk.wrap64_in _ (by omega)
      have q5 : IntKind.i64.wrap ((xs.length : Int) - 1) = (xs.length : Int) - 1 := by rw [IntKind.wrap_i64]; omega
      have q6 : wrap64 ((xs.length : Int) - 1) = (xs.length : Int) - 1 := IntWalk.wrap64_in _ (by omega)
      by_cases hrow : inRow xs.length m[k] = true
      · have HI2 := Lib.hid fun w => val_eq (v' := .bool true) (HIn.out w) (by
          rw [inRow_iff, Bool.and_eq_true] at hrow
          simp only [decide_eq_true_eq] at hrow
          congr 1
          rw [Bool.and_eq_true]; simp only [decide_eq_true_eq]; omega)
        have HN : Hid (((bl m).take (k + 1)).all (inRow xs.length) = true) := Lib.hid (by
          rw [List.take_add_one, HBy.out, List.all_append, HA.out]; simp [hrow])
        clear hrow HIn
        go_wp2
        go_quiet ((go_at_call 83; exact Calls.quiet_of_same (HI2.out _)))
        go_wp2
        go_roundw
        case rel => exact ⟨k + 1, by go_num, by omega, Lib.hid (by obtain ⟨q, rfl⟩ := HW.out; exact ⟨q + nq, by rw [World.drewN_drewN]⟩), HN⟩
        case measure => simp [intOf]; omega
      · have HI2 := Lib.hid fun w => val_eq (v' := .bool false) (HIn.out w) (by
          have h2 : inRow xs.length m[k] = false := by simpa using hrow
          rw [inRow_iff, Bool.and_eq_false_iff] at h2
          simp only [decide_eq_false_iff_not] at h2
          congr 1
          rw [Bool.and_eq_false_iff]; simp only [decide_eq_false_iff_not]; omega)
        have HR : Hid (lettersB xs m = false) := Lib.hid (by
          rw [Bool.eq_false_iff]
          exact fun h => hrow (List.all_eq_true.1 h _ (List.mem_of_getElem? HBy.out)))
        clear hrow HIn
        go_wp2
        go_quiet ((go_at_call 83; exact Calls.quiet_of_same (HI2.out _)))
        go_wp2
        go_ret
        exact ⟨by rw [HR.out]; rfl, HBw.out.trans ⟨rfl, rfl, rfl, Nat.le_refl _, fun _ _ => rfl⟩⟩
    · have HE : Hid (lettersB xs m = true) := Lib.hid (by
        have h1 := HA.out
        rwa [List.take_of_length_le (by rw [bl_len]; omega)] at h1)
      go_wp2
      go_ret
      exact ⟨by rw [HE.out]; rfl, HBw.out⟩

set_option maxHeartbeats 4000000 in
set_option maxRecDepth 8000 in
theorem sRank_any (a : Option Addr) (b o c : Nat) (xs : List ByteArray) (m : ByteArray) (w : World) (h : ListIn w a b o xs) (hm : m.size ≤ 1048576) :
    Calls Try.prog 50 #[.agg #[.slice a xs.length c], .string m] w fun e w' => e = .returned (.tuple #[.int .i64 (rankR xs m).1, .bool (rankR xs m).2]) ∧ Below w.heap.size w w' := by
  have hl := h.len
  have F := Lib.hid fun W hb => stable_any a b o c xs W (h.below (w' := W) hb)
  have HS := Lib.hid h
  clear h
  by_cases ht : tableB xs = true
  · have F2 := Lib.hid fun W hb => val_eq (v' := .bool true) (F.out W hb) (by rw [ht])
    have hn := ((tableB_iff xs).1 ht).1
    have HT := Lib.hid ht
    by_cases h40 : 40 < m.size
    · have HR : Hid (rankR xs m = (0, false)) := Lib.hid (if_neg (fun h => by have := (rankB_iff.1 h).2.1; omega))
      clear ht F
      go_enter Try.func50, Try.ntmps50
      go_wp2_with fail
      refine (F2.out _ (below_alloc _ _)).mono ?_
      rintro e w1 ⟨rfl, hb⟩
      have HB := Lib.hid ((below_alloc w (.cells #[.slice a xs.length c] 26)).trans (hb.mono (by simp)))
      clear hb
      go_wp2
      go_ret2
      exact ⟨by rw [HR.out]; rfl, HB.out⟩
    · have G := Lib.hid fun W => sLetters_any a b o c xs m W hn.1 hn.2 (by omega)
      by_cases hlet : lettersB xs m = true
      · have G2 := Lib.hid fun W => val_eq (v' := .bool true) (G.out W) (by rw [hlet])
        have HX5 : ∀ x ∈ xs, x.size ≤ 5 := fun x hx => by
          have := ((tableB_iff xs).1 HT.out).2.1 x hx
          simp only [marksL, Bool.and_eq_true, decide_eq_true_eq, bl_len] at this
          exact this.1.2
        have E := Lib.hid fun W hb => sBareL_any a b o c xs m W (HS.out.below (w' := W) hb) (by omega) HX5 hn.2 (letters_sp hlet)
        have hsz : (ba (bareL (xs.map bl) (bl m))).size ≤ 1048576 := by
          have h2 := bareL_le HX5 (bl m) (letters_sp hlet)
          rw [bl_len] at h2
          rw [ba_size]; omega
        have B := Lib.hid fun W => sl3bare_any (ba (bareL (xs.map bl) (bl m))) W (by unfold maxLen; omega)
        have HLe := Lib.hid hlet
        have HPl : Hid (∀ k, placeM xs m k ≤ (ba (bareL (xs.map bl) (bl m))).size) := Lib.hid (placeM_le xs m)
        by_cases hbr : bareT (ba (bareL (xs.map bl) (bl m))) = true
        · have B2 := Lib.hid fun W => val_eq (v' := .bool true) (B.out W) (by rw [hbr])
          have h40b := bare_le hbr
          have Y := Lib.hid fun W hb => sWays_any a b o c xs (ba (bareL (xs.map bl) (bl m))) W (HS.out.below (w' := W) hb) ht h40b
          have HR : Hid (rankR xs m = (((rankTo xs m m.size : Nat) : Int), true)) := Lib.hid (if_pos (rankB_iff.2 ⟨ht, by omega, hlet, hbr⟩))
          have HRk := Lib.hid (rankTo_le ht hlet h40b)
          have hh : ba (bareL (xs.map bl) (bl m)) = bareM xs m := rfl
          obtain ⟨s, hs⟩ : ∃ s, s = ba (bareL (xs.map bl) (bl m)) := ⟨_, rfl⟩
          have HSd : Hid (s = bareM xs m) := Lib.hid hs
          rw [← hs] at E B2 Y HPl h40b hsz
          have hn1 := hn.1
          have hn2 := hn.2
          clear hh hs hbr B ht F G hlet HX5 hn
          go_enter Try.func50, Try.ntmps50
          go_wp2_with fail
          refine (F2.out _ (below_alloc _ _)).mono ?_
          rintro e w1 ⟨rfl, hb⟩
          have hc1 : w1.cell? ⟨w.heap.size, 0, none⟩ = some (.slice a xs.length c) := (hb.cell (p := ⟨w.heap.size, 0, none⟩) (by simp)).trans (cell_new _ _ _)
          have HB := Lib.hid ((below_alloc w (.cells #[.slice a xs.length c] 26)).trans (hb.mono (by simp)))
          clear hb
          go_wp2_with fail
          refine (G2.out _).mono ?_
          rintro e w2 ⟨rfl, hb⟩
          have hc2 := (hb.cell (World.block_lt_of_cell? _ _ hc1)).trans hc1
          have HB2 := Lib.hid (HB.out.trans (hb.mono HB.out.size))
          clear hb hc1
          go_wp2_with fail
          refine (E.out _ HB2.out).mono ?_
          rintro e w3 ⟨rfl, hb⟩
          have hc3 := (hb.cell (World.block_lt_of_cell? _ _ hc2)).trans hc2
          have HB3 := Lib.hid (HB2.out.trans (hb.mono HB2.out.size))
          clear hb hc2
          go_wp2_with fail
          refine (B2.out _).mono ?_
          rintro e w4 ⟨rfl, hb⟩
          have hc4 := (hb.cell (World.block_lt_of_cell? _ _ hc3)).trans hc3
          have HB4 := Lib.hid (HB3.out.trans (hb.mono HB3.out.size))
          clear hb hc3
          go_wp2_with fail
          refine (Y.out _ HB4.out).mono ?_
          rintro e w5 ⟨g, rfl, hg, hrow, hb⟩
          have hc5 := (hb.cell (World.block_lt_of_cell? _ _ hc4)).trans hc4
          have HB5 := Lib.hid (HB4.out.trans (hb.mono HB4.out.size))
          have HV4 := Lib.hid hrow
          clear hb hc4 hrow
          go_wp2_with fail
          go_loopw [7, 8, 10] (fun rv fv iv wr => ∃ pos : Nat, pos ≤ m.size ∧ rv = .int .i64 (rankTo xs m pos) ∧ fv = .int .i64 (placeM xs m pos) ∧ iv = .int .i64 pos ∧ wr = w5) (fun _ _ iv _ => m.size - (intOf iv).toNat)
          case atStart => exact ⟨0, Nat.zero_le _, rfl, rfl, rfl, rfl⟩
          case round =>
            obtain ⟨pos, hp, rfl, rfl, rfl, rfl⟩ := hrel
            by_cases hlt : pos < m.size
            · obtain ⟨i, hil, hi, hown⟩ := letters_at HLe.out hlt
              obtain rfl := HS.out.src.1 (by omega)
              have HX := Lib.hid (List.getElem?_eq_getElem hil)
              have HNx := Lib.hid (placeM_next xs m hlt hi HX.out)
              have HR1 : Hid (rankTo xs m (pos + 1) = rankTo xs m pos + wayPart xs s (placeM xs m pos) i) := Lib.hid (by rw [rankTo, hown, HSd.out])
              have hcI := (HS.out.below HB5.out).src.2 i _ HX.out
              have hsI : 1 ≤ xs[i].size ∧ xs[i].size ≤ 5 := by
                have h1 := ((tableB_iff xs).1 HT.out).2.1 _ (List.getElem_mem hil)
                simp only [marksL, Bool.and_eq_true, decide_eq_true_eq, bl_len] at h1
                exact h1.1
              have hpl : placeM xs m pos + xs[i].size ≤ s.size := by rw [← HNx.out]; exact HPl.out _
              have hrk := HRk.out pos (by omega)
              generalize hxi : xs[i] = xi at hcI hsI hpl HNx
              have hby : m[pos].toNat < 256 := m[pos].toNat_lt
              have q1 : (m[pos].toNat : Int) - 97 = (i : Int) := by omega
              have q2 : IntKind.i64.wrap (m[pos].toNat : Int) = (m[pos].toNat : Int) := by rw [IntKind.wrap_i64]; omega
              have q3 : IntKind.i64.wrap ((m[pos].toNat : Int) - 97) = (i : Int) := by rw [IntKind.wrap_i64]; omega
              have r0 : (0 : Int) ≤ (i : Int) := by omega
              have r1 : (i : Int) < (xs.length : Int) := by omega
              have i0 : (0 : Int) ≤ (pos : Int) := by omega
              have i1 : (pos : Int) < (m.size : Int) := by omega
              generalize placeM xs m pos = p at HR1 hpl HNx
              generalize rankTo xs m pos = rk at HR1 hrk
              have hb1 := wayPart_le HT.out s h40b p i (by omega)
              have h41 : pos * 1099511627776 ≤ 40 * 1099511627776 := Nat.mul_le_mul_right _ (by omega)
              clear hi hown hxi
              go_wp2
              go_loopw [7, 12] (fun rv iv wr2 => ∃ k : Nat, k ≤ i ∧ rv = .int .i64 ((rk + wayPart xs s p k : Nat) : Int) ∧ iv = .int .i64 k ∧ wr2 = wr) (fun _ iv _ => i - (intOf iv).toNat)
              case atStart => exact ⟨0, Nat.zero_le _, by rw [wayPart_zero]; rfl, rfl, rfl⟩
              case round =>
                obtain ⟨k, hk, rfl, rfl, rfl⟩ := hrel
                by_cases hki : k < i
                · have hkl : k < xs.length := by omega
                  have hcell := (HS.out.below HB5.out).src.2 k _ (List.getElem?_eq_getElem hkl)
                  have HXk := Lib.hid (List.getElem?_eq_getElem hkl)
                  have hx1 : 1 ≤ xs[k].size ∧ xs[k].size ≤ 5 := by
                    have h1 := ((tableB_iff xs).1 HT.out).2.1 _ (List.getElem_mem hkl)
                    simp only [marksL, Bool.and_eq_true, decide_eq_true_eq, bl_len] at h1
                    exact h1.1
                  generalize xs[k] = x at hcell HXk hx1
                  have HSt := Lib.hid fun w => stands_any s x p w (by omega) h40b hx1.2
                  have HSu := Lib.hid (wayPart_succ xs s p k x HXk.out)
                  have k0 : (0 : Int) ≤ (k : Int) := by omega
                  have k1 : (k : Int) < (xs.length : Int) := by omega
                  have k2 : (k : Int) < (i : Int) := by omega
                  by_cases hst : stands s x p = true
                  · have HSt2 := Lib.hid fun w => val_eqS (v' := .bool true) (HSt.out w) (by rw [hst])
                    have hsz := stands_le (s := s) (m := x) (j := p) (by omega) hst
                    have d2 := HV4.out.cell (i := p + x.size) (by omega)
                    have HP : Hid (wayPart xs s p (k + 1) = wayPart xs s p k + wayAt xs s (p + x.size)) := Lib.hid (by rw [HSu.out, if_pos hst])
                    have hb3 := wayPart_le HT.out s h40b p k (by omega)
                    have hb2 := wayAt_le HT.out s h40b (p + x.size)
                    generalize wayPart xs s p k = y1 at HP hb3
                    generalize wayAt xs s (p + x.size) = y2 at d2 HP hb2
                    have z0 : (0 : Int) ≤ (p : Int) + (x.size : Int) := by omega
                    have z1 : (p : Int) + (x.size : Int) < (s.size : Int) + 1 := by omega
                    have z2 : ((rk + y1 : Nat) : Int) ≤ 1099511627776 * 42 := by omega
                    have z3 : (0 : Int) ≤ ((rk + y1 : Nat) : Int) := by omega
                    clear hst
                    go_wp2_with fail
                    refine (HSt2.out _).mono ?_
                    rintro e w6 ⟨rfl, hww⟩
                    obtain rfl := hww.symm
                    go_wp2
                    go_roundw
                    case rel => exact ⟨k + 1, by omega, by rw [HP.out]; congr 1; omega, by go_num, trivial⟩
                    case measure => simp [intOf]; omega
                  · have HSt2 := Lib.hid fun w => val_eqS (v' := .bool false) (HSt.out w) (by simp [hst])
                    have HP : Hid (wayPart xs s p (k + 1) = wayPart xs s p k) := Lib.hid (by rw [HSu.out, if_neg hst]; rfl)
                    clear hst
                    go_wp2_with fail
                    refine (HSt2.out _).mono ?_
                    rintro e w6 ⟨rfl, hww⟩
                    obtain rfl := hww.symm
                    go_wp2
                    go_roundw
                    case rel => exact ⟨k + 1, by omega, by rw [HP.out]; rfl, by go_num, trivial⟩
                    case measure => simp [intOf]; omega
                · obtain rfl : k = i := by omega
                  go_wp2
                  go_roundw
                  case rel => exact ⟨pos + 1, by omega, by rw [HR1.out], by rw [HNx.out]; rfl, by go_num, trivial⟩
                  case measure => simp [intOf]; omega
            · obtain rfl : pos = m.size := by omega
              go_wp2
              go_ret2
              exact ⟨by rw [HR.out]; rfl, HB5.out⟩
        · have B2 := Lib.hid fun W => val_eq (v' := .bool false) (B.out W) (by simp [hbr])
          have HR : Hid (rankR xs m = (0, false)) := Lib.hid (if_neg (fun h => hbr (rankB_iff.1 h).2.2.2))
          clear ht hn F G hlet HX5 HPl hbr B
          generalize ba (bareL (xs.map bl) (bl m)) = s at E B2 hsz
          go_enter Try.func50, Try.ntmps50
          go_wp2_with fail
          refine (F2.out _ (below_alloc _ _)).mono ?_
          rintro e w1 ⟨rfl, hb⟩
          have hc1 : w1.cell? ⟨w.heap.size, 0, none⟩ = some (.slice a xs.length c) := (hb.cell (p := ⟨w.heap.size, 0, none⟩) (by simp)).trans (cell_new _ _ _)
          have HB := Lib.hid ((below_alloc w (.cells #[.slice a xs.length c] 26)).trans (hb.mono (by simp)))
          clear hb
          go_wp2_with fail
          refine (G2.out _).mono ?_
          rintro e w2 ⟨rfl, hb⟩
          have hc2 := (hb.cell (World.block_lt_of_cell? _ _ hc1)).trans hc1
          have HB2 := Lib.hid (HB.out.trans (hb.mono HB.out.size))
          clear hb hc1
          go_wp2_with fail
          refine (E.out _ HB2.out).mono ?_
          rintro e w3 ⟨rfl, hb⟩
          have HB3 := Lib.hid (HB2.out.trans (hb.mono HB2.out.size))
          clear hb hc2
          go_wp2_with fail
          refine (B2.out _).mono ?_
          rintro e w4 ⟨rfl, hb⟩
          have HB4 := Lib.hid (HB3.out.trans (hb.mono HB3.out.size))
          clear hb
          go_wp2
          go_ret2
          exact ⟨by rw [HR.out]; rfl, HB4.out⟩
      · have G2 := Lib.hid fun W => val_eq (v' := .bool false) (G.out W) (by simp [hlet])
        have HR : Hid (rankR xs m = (0, false)) := Lib.hid (if_neg (fun h => hlet (rankB_iff.1 h).2.2.1))
        clear ht hn F G hlet
        go_enter Try.func50, Try.ntmps50
        go_wp2_with fail
        refine (F2.out _ (below_alloc _ _)).mono ?_
        rintro e w1 ⟨rfl, hb⟩
        have hc1 : w1.cell? ⟨w.heap.size, 0, none⟩ = some (.slice a xs.length c) := (hb.cell (p := ⟨w.heap.size, 0, none⟩) (by simp)).trans (cell_new _ _ _)
        have HB := Lib.hid ((below_alloc w (.cells #[.slice a xs.length c] 26)).trans (hb.mono (by simp)))
        clear hb
        go_wp2_with fail
        refine (G2.out _).mono ?_
        rintro e w2 ⟨rfl, hb⟩
        have hc2 := (hb.cell (World.block_lt_of_cell? _ _ hc1)).trans hc1
        have HB2 := Lib.hid (HB.out.trans (hb.mono HB.out.size))
        clear hb hc1
        go_wp2
        go_ret2
        exact ⟨by rw [HR.out]; rfl, HB2.out⟩
  · have F2 := Lib.hid fun W hb => val_eq (v' := .bool false) (F.out W hb) (by simp [ht])
    have HR : Hid (rankR xs m = (0, false)) := Lib.hid (if_neg (fun h => ht (rankB_iff.1 h).1))
    clear ht F
    go_enter Try.func50, Try.ntmps50
    go_wp2_with fail
    refine (F2.out _ (below_alloc _ _)).mono ?_
    rintro e w1 ⟨rfl, hb⟩
    have hc1 : w1.cell? ⟨w.heap.size, 0, none⟩ = some (.slice a xs.length c) := (hb.cell (p := ⟨w.heap.size, 0, none⟩) (by simp)).trans (cell_new _ _ _)
    have HB := Lib.hid ((below_alloc w (.cells #[.slice a xs.length c] 26)).trans (hb.mono (by simp)))
    clear hb
    go_wp2
    go_ret2
    exact ⟨by rw [HR.out]; rfl, HB.out⟩

theorem rankOfReading_both (xs : List ByteArray) (m : ByteArray) (hl : xs.length ≤ 1048576) (ht : ∀ x ∈ xs, x.size ≤ 1048576) (hm : m.size ≤ 1048576) : ∃ (R0 : Int) (R1 : Bool),
    Hid (∀ W a b o c, ListIn W a b o xs → xs.length ≤ c → Calls Try.prog 50 #[.agg #[.slice a xs.length c], .string m] W fun e W' => e = .returned (.tuple #[.int .i64 R0, .bool R1]) ∧ Below W.heap.size W W') ∧
    Hid (∀ W a b o c, ListIn W a b o xs → xs.length ≤ c → Calls Try.prog 51 #[.agg #[.slice a xs.length c], .string m] W fun e W' => e = .returned (.tuple #[.int .i64 R0, .bool R1]) ∧ Below W.heap.size W W') :=
  ⟨_, _, fun W a b o c h _ => sRank_any a b o c xs m W h hm, fun W a b o c h hc => rank_any a b o c xs m W h hc hm⟩
end Go.Proofs.Ytekgmdigchobbaa
