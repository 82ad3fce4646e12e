/-
  bareOfLetters, RankOfReading of the program. Used by the claims on chapter 3.
-/
import Derived.Test.YtekgmdigchobbaaRankL
namespace Go.Proofs.Ytekgmdigchobbaa
open Go.RowKit
set_option linter.unusedVariables false

set_option maxHeartbeats 4000000 in
set_option maxRecDepth 8000 in
theorem bareOfL_any (a : Option Addr) (b o c : Nat) (xs : List ByteArray) (m : ByteArray) (w : World) (h : ListIn w a b o xs) (hm : m.size ≤ 1048576) :
    Calls Try.prog 111 #[.agg #[.slice a xs.length c], .string m] w fun e w' => (∃ s, e = .returned (.tuple #[.string s, .bool (rankB xs m)]) ∧ (rankB xs m = true → s = bareM xs m)) ∧ Below w.heap.size w w' := by
  have hl := h.len
  have F := Lib.hid fun W hb => isTable_any a b o c xs W (h.below (w' := W) hb)
  have HS := Lib.hid h
  clear h
  by_cases ht : tableB xs = true
  · have F2 := Lib.hid fun W hb => val_eq (v' := .bool true) (F.out W hb) (by rw [ht])
    have hn : xs.length ≤ 10 := ((tableB_iff xs).1 ht).1.2
    by_cases h40 : 40 < m.size
    · have HR : Hid (rankB xs m = false) := Lib.hid (by rw [Bool.eq_false_iff]; exact fun h => by have := (rankB_iff.1 h).2.1; omega)
      clear ht F
      rw [HR.out]
      go_enter Try.func111, Try.ntmps111
      go_wp2_with fail
      refine (F2.out _ (below_alloc _ _)).mono ?_
      rintro e w1 ⟨rfl, hb⟩
      have HB := Lib.hid ((below_alloc w (.cells #[.slice a xs.length c] 26)).trans (hb.mono (by simp)))
      clear hb
      go_wp2
      go_ret2
      exact ⟨⟨_, rfl, fun h => by cases h⟩, HB.out⟩
    · have HT := Lib.hid ht
      have HX5 : Hid (∀ x ∈ xs, x.size ≤ 5) := fun x hx => by
        have := ((tableB_iff xs).1 HT.out).2.1 x hx
        simp only [marksL, Bool.and_eq_true, decide_eq_true_eq, bl_len] at this
        exact this.1.2
      have FB := Lib.hid fun s W (hs : s.size ≤ 1048576) => isBare_any s W (by unfold maxLen; omega)
      have H40 : Hid (m.size ≤ 40) := Lib.hid (by omega)
      clear ht F
      go_enter Try.func111, Try.ntmps111
      go_wp2_with fail
      refine (F2.out _ (below_alloc _ _)).mono ?_
      rintro e w1 ⟨rfl, hb⟩
      have hc1 : w1.cell? ⟨w.heap.size, 0, none⟩ = some (.slice a xs.length c) := (hb.cell (p := ⟨w.heap.size, 0, none⟩) (by simp)).trans (cell_new _ _ _)
      have HB := Lib.hid ((below_alloc w (.cells #[.slice a xs.length c] 26)).trans (hb.mono (by simp)))
      clear hb
      go_wp2_with fail
      go_loopw [6] (fun sv wr => ∃ (pos : Nat) (l : Bs), pos ≤ m.size ∧ sv = .string ⟨l.toArray⟩ ∧ l.length ≤ 5 * pos ∧ wr.heap[w1.heap.size]? = some (.stringIter m pos) ∧ wr.cell? ⟨w.heap.size, 0, none⟩ = some (.slice a xs.length c) ∧ Hid (l = bareL (xs.map bl) ((bl m).take pos)) ∧ Hid (((bl m).take pos).all (inRow xs.length) = true) ∧ Hid (Below w.heap.size w wr)) (fun _ wr => m.size - wr.iterPos w1.heap.size)
      case atStart => exact ⟨0, [], Nat.zero_le _, rfl, by simp, World.iter_heap w1 m 0, keep_cell _ _ hc1, Lib.hid rfl, Lib.hid (by simp), Lib.hid (HB.out.alloc HB.out.size _)⟩
      case round =>
        obtain ⟨pos, l, hp, rfl, hll, hit, hc2, HG, HA, HB2⟩ := hrel
        have HPo := Lib.hid (iterPos_of hit)
        by_cases hlt : pos < m.size
        · obtain ⟨r, wd, hde, hrr, hwd, hcase⟩ := sign_at m pos hlt
          have hnx : ∀ ty, (Instr.next (.pointer (some ⟨w1.heap.size, 0, none⟩)) true ty).run Try.prog wr = _ := fun ty => Lib.run_next_any_at wr w1.heap.size m pos ty hit hlt
          have hit2 := Lib.iterAt_heap wr w1.heap.size m pos (pos + wd) hit
          have HB3 : Hid (Below w.heap.size w (wr.iterAt w1.heap.size m (pos + wd))) := Lib.hid (Lib.below_iterAt HB2.out (k := w1.heap.size) HB.out.size m (pos + wd))
          have hc3 : (wr.iterAt w1.heap.size m (pos + wd)).cell? ⟨w.heap.size, 0, none⟩ = some (.slice a xs.length c) := by rw [← hc2]; exact iterAt_cell _ _ _ _ _ hit
          have HLt := Lib.hid fun w => isLetter_at xs.length r (by omega) hrr w
          have HBy := Lib.hid (bl_at m pos hlt)
          rw [hde] at hnx
          simp only at hnx
          by_cases hrow : inRow xs.length m[pos] = true
          · have hrow2 := hrow
            rw [inRow_iff, Bool.and_eq_true] at hrow2
            simp only [decide_eq_true_eq] at hrow2
            obtain ⟨rfl, rfl⟩ : r = m[pos].toNat ∧ wd = 1 := by
              rcases hcase with ⟨_, h2, h3⟩ | ⟨_, h2⟩
              · exact ⟨h2, h3⟩
              · omega
            obtain ⟨i, hi⟩ : ∃ i, m[pos].toNat = 97 + i := ⟨m[pos].toNat - 97, by omega⟩
            have hil : i < xs.length := by omega
            obtain rfl := HS.out.src.1 (by omega)
            have hcell := (HS.out.below HB3.out).src.2 i _ (List.getElem?_eq_getElem hil)
            have HN : Hid (l ++ bl xs[i] = bareL (xs.map bl) ((bl m).take (pos + 1))) := Lib.hid (by
              rw [bareL_next xs m hlt hi (List.getElem?_eq_getElem hil), ← HG.out])
            have HA2 : Hid (((bl m).take (pos + 1)).all (inRow xs.length) = true) := Lib.hid (by
              rw [List.take_add_one, HBy.out, List.all_append, HA.out]; simp [hrow])
            have hx5 := HX5.out _ (List.getElem_mem hil)
            have HL2 := Lib.hid fun w => val_eqS (v' := .bool true) (HLt.out w) (by rw [decide_eq_true hrow2.1, decide_eq_true hrow2.2]; rfl)
            rw [hi] at hnx HL2
            generalize xs[i] = x at hcell hx5 HN
            obtain ⟨W1, hW1⟩ : ∃ W1, W1 = wr.iterAt w1.heap.size m (pos + 1) := ⟨_, rfl⟩
            rw [← hW1] at hnx hit2 HB3 hc3 hcell
            have j0 : (0 : Int) ≤ (i : Int) := by omega
            have j1 : (i : Int) < (xs.length : Int) := by omega
            have q1 : ((97 + i : Nat) : Int) - 97 = (i : Int) := by omega
            have q2 : IntKind.i32.wrap (((97 + i : Nat) : Int) - 97) = (i : Int) := by rw [q1, IntKind.wrap_i32]; omega
            have q3 : IntKind.i32.wrap (97 + (i : Int) - 97) = (i : Int) := by rw [IntKind.wrap_i32]; omega
            have HCx := Lib.hid (catB l x)
            have h4 := H40.out
            have p2 : ¬ 9223372036854775807 < l.length + x.size := by omega
            clear hW1 hit hde hcase hc2 hrow hrow2 hi HLt
            go_wp2_with fail
            refine (HL2.out _).mono ?_
            rintro e w' ⟨rfl, hww⟩
            obtain rfl := hww.symm
            go_wp2
            go_roundw
            case rel => exact ⟨pos + 1, l ++ bl x, by omega, by rw [HCx.out], by rw [List.length_append, bl_len]; omega, hit2, hc3, HN, HA2, HB3⟩
            case measure => rw [iterPos_of hit2, HPo.out]; omega
          · have HR : Hid (rankB xs m = false) := Lib.hid (by
              rw [Bool.eq_false_iff]
              exact fun h => hrow (List.all_eq_true.1 (rankB_iff.1 h).2.2.1 _ (List.mem_of_getElem? HBy.out)))
            have HL2 := Lib.hid fun w => val_eqS (v' := .bool false) (HLt.out w) (by
              congr 1
              rw [Bool.and_eq_false_iff]
              simp only [decide_eq_false_iff_not]
              rw [inRow_iff, Bool.and_eq_true] at hrow
              simp only [decide_eq_true_eq] at hrow
              rcases hcase with ⟨_, h2, _⟩ | ⟨h2, _⟩ <;> omega)
            obtain ⟨W1, hW1⟩ : ∃ W1, W1 = wr.iterAt w1.heap.size m (pos + wd) := ⟨_, rfl⟩
            rw [← hW1] at hnx hit2 HB3 hc3
            clear hW1 hit hde hcase hc2 hrow HLt
            go_wp2_with fail
            refine (HL2.out _).mono ?_
            rintro e w' ⟨rfl, hww⟩
            obtain rfl := hww.symm
            go_wp2
            go_ret2
            exact ⟨⟨_, by rw [HR.out]; rfl, fun h => by rw [HR.out] at h; cases h⟩, HB3.out⟩
        · have hnx : ∀ ty, (Instr.next (.pointer (some ⟨w1.heap.size, 0, none⟩)) true ty).run Try.prog wr = _ := fun ty => Lib.run_next_end_at wr w1.heap.size m pos ty hit hlt
          have hE : (bl m).take pos = bl m := List.take_of_length_le (by rw [bl_len]; omega)
          have HE : Hid (ba l = bareM xs m) := Lib.hid (by rw [HG.out, hE]; rfl)
          have HL : Hid (lettersB xs m = true) := Lib.hid (by have := HA.out; rwa [hE] at this)
          have hs2 : (ba l).size ≤ 1048576 := by rw [ba_size]; have := H40.out; omega
          have HR : Hid (bareT (ba l) = rankB xs m) := Lib.hid (by
            rw [HE.out]
            simp only [rankB, HT.out, HL.out, decide_eq_true H40.out, Bool.true_and])
          have FB2 := Lib.hid fun W => FB.out (ba l) W hs2
          clear hE hc2
          go_wp2_with fail
          refine (FB2.out _).mono ?_
          rintro e w2 ⟨rfl, hb⟩
          have HB3 := Lib.hid (HB2.out.trans (hb.mono HB2.out.size))
          clear hb
          go_wp2
          go_ret2
          exact ⟨⟨_, by rw [← HR.out]; rfl, fun _ => HE.out⟩, HB3.out⟩
  · have F2 := Lib.hid fun W hb => val_eq (v' := .bool false) (F.out W hb) (by simp [ht])
    have HR : Hid (rankB xs m = false) := Lib.hid (by rw [Bool.eq_false_iff]; exact fun h => ht (rankB_iff.1 h).1)
    clear ht F
    rw [HR.out]
    go_enter Try.func111, Try.ntmps111
    go_wp2_with fail
    refine (F2.out _ (below_alloc _ _)).mono ?_
    rintro e w1 ⟨rfl, hb⟩
    have HB := Lib.hid ((below_alloc w (.cells #[.slice a xs.length c] 26)).trans (hb.mono (by simp)))
    clear hb
    go_wp2
    go_ret2
    exact ⟨⟨_, rfl, fun h => by cases h⟩, HB.out⟩

set_option maxHeartbeats 4000000 in
set_option maxRecDepth 8000 in
theorem rank_any (a : Option Addr) (b o c : Nat) (xs : List ByteArray) (m : ByteArray) (w : World) (h : ListIn w a b o xs) (hcap : xs.length ≤ c) (hm : m.size ≤ 1048576) :
    Calls Try.prog 51 #[.agg #[.slice a xs.length c], .string m] w fun e w' => e = .returned (.tuple #[.int .i64 (rankR xs m).1, .bool (rankR xs m).2]) ∧ Below w.heap.size w w' := by
  have hl := h.len
  have F := Lib.hid fun W hb => bareOfL_any a b o c xs m W (h.below (w' := W) hb) hm
  have HS := Lib.hid h
  clear h
  by_cases hv : rankB xs m = true
  · obtain ⟨ht, h40, hlet, hbr⟩ := rankB_iff.1 hv
    have h40b := bare_le hbr
    have hn : xs.length ≤ 10 := ((tableB_iff xs).1 ht).1.2
    have F2 : Hid (∀ W, Below w.heap.size w W → Calls Try.prog 111 #[.agg #[.slice a xs.length c], .string m] W fun e w' => e = .returned (.tuple #[.string (bareM xs m), .bool true]) ∧ Below W.heap.size W w') := fun W hb => (F.out W hb).mono fun e w' ⟨⟨s, h1, h2⟩, h3⟩ => ⟨by rw [h1, h2 hv, hv], h3⟩
    have G := Lib.hid fun W hb => behind_any a b o c xs (bareM xs m) W (HS.out.below (w' := W) hb) ht h40b
    have HR : Hid (rankR xs m = (((rankTo xs m m.size : Nat) : Int), true)) := Lib.hid (if_pos hv)
    have HT := Lib.hid ht
    have HLe := Lib.hid hlet
    have HPl := Lib.hid (placeM_le xs m)
    have HRk := Lib.hid (rankTo_le ht hlet h40b)
    obtain ⟨s, hs⟩ : ∃ s, s = bareM xs m := ⟨_, rfl⟩
    have HSd := Lib.hid hs
    rw [← hs] at F2 G HPl h40b
    clear ht F hlet hbr hv hs
    go_enter Try.func51, Try.ntmps51
    go_wp2_with fail
    refine (F2.out _ (below_alloc _ _)).mono ?_
    rintro e w1 ⟨rfl, hb⟩
    have hc1 : w1.cell? ⟨w.heap.size, 0, none⟩ = some (.slice a xs.length c) := (hb.cell (p := ⟨w.heap.size, 0, none⟩) (by simp)).trans (cell_new _ _ _)
    have HB := Lib.hid ((below_alloc w (.cells #[.slice a xs.length c] 26)).trans (hb.mono (by simp)))
    clear hb
    go_wp2_with fail
    refine (G.out _ HB.out).mono ?_
    rintro e w2 ⟨g, rfl, hg, hrow, hb⟩
    have hc2 := (hb.cell (World.block_lt_of_cell? _ _ hc1)).trans hc1
    have HB2 := Lib.hid (HB.out.trans (hb.mono HB.out.size))
    have HW2 := Lib.hid hrow
    clear hb hc1 hrow
    go_wp2_with fail
    go_loopw [9, 10] (fun rv fv wr => ∃ pos : Nat, pos ≤ m.size ∧ rv = .int .i64 (rankTo xs m pos) ∧ fv = .int .i64 (placeM xs m pos) ∧ wr.heap[w2.heap.size]? = some (.stringIter m pos) ∧ wr.cell? ⟨w.heap.size, 0, none⟩ = some (.slice a xs.length c) ∧ Hid (wr.rowIs g 3 (s.size + 1) (fun j => .int .i64 (wayAt xs s j))) ∧ Hid (Below w.heap.size w wr)) (fun _ _ wr => m.size - wr.iterPos w2.heap.size)
    case atStart => exact ⟨0, Nat.zero_le _, rfl, rfl, World.iter_heap w2 m 0, keep_cell _ _ hc2, Lib.hid (rowIs_below HW2.out (below_alloc _ _)), Lib.hid (HB2.out.alloc HB2.out.size _)⟩
    case round =>
      obtain ⟨pos, hp, rfl, rfl, hit, hc3, HV, HB3⟩ := hrel
      have HPo := Lib.hid (iterPos_of hit)
      by_cases hlt : pos < m.size
      · obtain ⟨r, wd, hde, hrr, hwd, hcase⟩ := sign_at m pos hlt
        obtain ⟨i, hil, hi, hown⟩ := letters_at HLe.out hlt
        obtain ⟨rfl, rfl⟩ : r = m[pos].toNat ∧ wd = 1 := by
          rcases hcase with ⟨_, h2, h3⟩ | ⟨_, h2⟩
          · exact ⟨h2, h3⟩
          · omega
        have hnx : ∀ ty, (Instr.next (.pointer (some ⟨w2.heap.size, 0, none⟩)) true ty).run Try.prog wr = _ := fun ty => Lib.run_next_any_at wr w2.heap.size m pos ty hit hlt
        have hit2 := Lib.iterAt_heap wr w2.heap.size m pos (pos + 1) hit
        have HB4 : Hid (Below w.heap.size w (wr.iterAt w2.heap.size m (pos + 1))) := Lib.hid (Lib.below_iterAt HB3.out (k := w2.heap.size) HB2.out.size m (pos + 1))
        have hc4 : (wr.iterAt w2.heap.size m (pos + 1)).cell? ⟨w.heap.size, 0, none⟩ = some (.slice a xs.length c) := by rw [← hc3]; exact iterAt_cell _ _ _ _ _ hit
        have HV4 := Lib.hid (rowIs_iter HV.out hit (pos + 1))
        rw [hde] at hnx
        simp only at hnx
        obtain rfl := HS.out.src.1 (by omega)
        have HX := Lib.hid (List.getElem?_eq_getElem hil)
        have HNx := Lib.hid (placeM_next xs m hlt hi HX.out)
        have HR1 : Hid (rankTo xs m (pos + 1) = rankTo xs m pos + wayPart xs s (placeM xs m pos) i) := Lib.hid (by rw [rankTo, hown, HSd.out])
        have hcI := (HS.out.below HB4.out).src.2 i _ HX.out
        have hsI : 1 ≤ xs[i].size ∧ xs[i].size ≤ 5 := by
          have h1 := ((tableB_iff xs).1 HT.out).2.1 _ (List.getElem_mem hil)
          simp only [marksL, Bool.and_eq_true, decide_eq_true_eq, bl_len] at h1
          exact h1.1
        have hpl : placeM xs m pos + xs[i].size ≤ s.size := by rw [← HNx.out]; exact HPl.out _
        have hrk := HRk.out pos (by omega)
        generalize hxi : xs[i] = xi at hcI hsI hpl HNx
        rw [hi] at hnx
        obtain ⟨W1, hW1⟩ : ∃ W1, W1 = wr.iterAt w2.heap.size m (pos + 1) := ⟨_, rfl⟩
        rw [← hW1] at hnx hit2 HB4 hc4 HV4 hcI
        have q1 : ((97 + i : Nat) : Int) - 97 = (i : Int) := by omega
        have q2 : IntKind.i32.wrap (((97 + i : Nat) : Int) - 97) = (i : Int) := by rw [q1, IntKind.wrap_i32]; omega
        have q3 : IntKind.i32.wrap (97 + (i : Int) - 97) = (i : Int) := by rw [IntKind.wrap_i32]; omega
        have q4 : IntKind.i64.wrap (i : Int) = (i : Int) := by rw [IntKind.wrap_i64]; omega
        have r0 : (0 : Int) ≤ (i : Int) := by omega
        have r1 : (i : Int) < (xs.length : Int) := by omega
        have r2 : (i : Int) ≤ (c : Int) := by omega
        generalize placeM xs m pos = p at HR1 hpl HNx
        generalize rankTo xs m pos = rk at HR1 hrk
        clear hW1 hit hde hcase hc3 hi hown HV hxi
        have i2 : (0 : Int) ≤ (p : Int) := by omega
        have i3 : (p : Int) ≤ (s.size : Int) := by omega
        have hb1 := wayPart_le HT.out s h40b p i (by omega)
        have h41 : pos * 1099511627776 ≤ 40 * 1099511627776 := Nat.mul_le_mul_right _ (by omega)
        go_wp2
        go_loopw [9, 40] (fun rv iv wr => ∃ k : Nat, k ≤ i ∧ rv = .int .i64 ((rk + wayPart xs s p k : Nat) : Int) ∧ iv = .int .i64 k ∧ wr = W1) (fun _ iv _ => i - (intOf iv).toNat)
        case atStart => exact ⟨0, Nat.zero_le _, by rw [wayPart_zero]; rfl, rfl, rfl⟩
        case round =>
          obtain ⟨k, hk, rfl, rfl, rfl⟩ := hrel
          by_cases hki : k < i
          · have hkl : k < xs.length := by omega
            have hcell := (HS.out.below HB4.out).src.2 k _ (List.getElem?_eq_getElem hkl)
            have HXk := Lib.hid (List.getElem?_eq_getElem hkl)
            have hx1 : 1 ≤ xs[k].size ∧ xs[k].size ≤ 5 := by
              have h1 := ((tableB_iff xs).1 HT.out).2.1 _ (List.getElem_mem hkl)
              simp only [marksL, Bool.and_eq_true, decide_eq_true_eq, bl_len] at h1
              exact h1.1
            generalize xs[k] = x at hcell HXk hx1
            have HSt := Lib.hid fun w => Try.strings_HasPrefix (s.extract p s.size) x w
            have HSu := Lib.hid (wayPart_succ xs s p k x HXk.out)
            have HEx : Hid (Lib.hasPrefix (s.extract p s.size).data.toList x.data.toList = stands s x p) := Lib.hid (by
              show (bl x).isPrefixOf (bl (s.extract p s.size)) = _
              rw [bl_behind]; rfl)
            have k0 : (0 : Int) ≤ (k : Int) := by omega
            have k1 : (k : Int) < (i : Int) := by omega
            by_cases hst : stands s x p = true
            · have HSt2 := Lib.hid fun w => val_eqS (v' := .bool true) (HSt.out w) (by rw [HEx.out, hst])
              have hsz := stands_le (s := s) (m := x) (j := p) (by omega) hst
              have d2 := HV4.out.cell (i := p + x.size) (by omega)
              have HP : Hid (wayPart xs s p (k + 1) = wayPart xs s p k + wayAt xs s (p + x.size)) := Lib.hid (by rw [HSu.out, if_pos hst])
              have hb3 := wayPart_le HT.out s h40b p k (by omega)
              have hb2 := wayAt_le HT.out s h40b (p + x.size)
              generalize wayPart xs s p k = y1 at HP hb3
              generalize wayAt xs s (p + x.size) = y2 at d2 HP hb2
              have z0 : (0 : Int) ≤ (p : Int) + (x.size : Int) := by omega
              have z1 : (p : Int) + (x.size : Int) < (s.size : Int) + 1 := by omega
              have z2 : ((rk + y1 : Nat) : Int) ≤ 1099511627776 * 42 := by omega
              have z3 : (0 : Int) ≤ ((rk + y1 : Nat) : Int) := by omega
              clear hst
              go_wp2_with fail
              refine (HSt2.out _).mono ?_
              rintro e w5 ⟨rfl, hww⟩
              obtain rfl := hww.symm
              go_wp2
              go_roundw
              case rel => exact ⟨k + 1, by omega, by rw [HP.out]; congr 1; omega, by go_num, trivial⟩
              case measure => simp [intOf]; omega
            · have HSt2 := Lib.hid fun w => val_eqS (v' := .bool false) (HSt.out w) (by rw [HEx.out]; simp [hst])
              have HP : Hid (wayPart xs s p (k + 1) = wayPart xs s p k) := Lib.hid (by rw [HSu.out, if_neg hst]; rfl)
              clear hst
              go_wp2_with fail
              refine (HSt2.out _).mono ?_
              rintro e w5 ⟨rfl, hww⟩
              obtain rfl := hww.symm
              go_wp2
              go_roundw
              case rel => exact ⟨k + 1, by omega, by rw [HP.out]; rfl, by go_num, trivial⟩
              case measure => simp [intOf]; omega
          · obtain rfl : k = i := by omega
            go_wp2
            go_roundw
            case rel => exact ⟨pos + 1, by omega, by rw [HR1.out], by rw [HNx.out]; rfl, hit2, hc4, HV4, HB4⟩
            case measure => rw [iterPos_of hit2, HPo.out]; omega
      · have hnx : ∀ ty, (Instr.next (.pointer (some ⟨w2.heap.size, 0, none⟩)) true ty).run Try.prog wr = _ := fun ty => Lib.run_next_end_at wr w2.heap.size m pos ty hit hlt
        obtain rfl : pos = m.size := by omega
        go_wp2
        go_ret2
        exact ⟨by rw [HR.out]; rfl, HB3.out⟩
  · have F2 : Hid (∀ W, Below w.heap.size w W → Calls Try.prog 111 #[.agg #[.slice a xs.length c], .string m] W fun e w' => (∃ s, e = .returned (.tuple #[.string s, .bool false])) ∧ Below W.heap.size W w') := fun W hb => (F.out W hb).mono fun e w' ⟨⟨s, h1, h2⟩, h3⟩ => ⟨⟨s, by rw [h1]; simp [hv]⟩, h3⟩
    have HR : Hid (rankR xs m = (0, false)) := Lib.hid (if_neg hv)
    clear F hv
    go_enter Try.func51, Try.ntmps51
    go_wp2_with fail
    refine (F2.out _ (below_alloc _ _)).mono ?_
    rintro e w1 ⟨⟨s, rfl⟩, hb⟩
    have HB := Lib.hid ((below_alloc w (.cells #[.slice a xs.length c] 26)).trans (hb.mono (by simp)))
    clear hb
    go_wp2
    go_ret2
    exact ⟨by rw [HR.out]; rfl, HB.out⟩
end Go.Proofs.Ytekgmdigchobbaa
