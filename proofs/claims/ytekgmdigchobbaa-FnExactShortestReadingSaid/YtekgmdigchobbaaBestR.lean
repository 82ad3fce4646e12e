/-
  l3Reading, ShortestReading and LongestReading of the model; both answer alike. Used by the claims on chapter 3.
-/
import Derived.Test.YtekgmdigchobbaaBestT
import Derived.Test.YtekgmdigchobbaaReadS
namespace Go.Proofs.Ytekgmdigchobbaa
open Go.RowKit
set_option linter.unusedVariables false

set_option maxHeartbeats 8000000 in
set_option maxRecDepth 8000 in
theorem sReading_any (m : Bool) (a : Option Addr) (b o c : Nat) (xs : List ByteArray) (s : ByteArray) (w : World) (h : ListIn w a b o xs) (ht : tableB xs = true) (h40 : s.size ≤ 40)
    (hG : ∀ W, ListIn W a b o xs → Calls Try.prog 137 #[.agg #[.slice a xs.length c], .string s, .bool m] W (BestOut m xs s W)) :
    Calls Try.prog 113 #[.agg #[.slice a xs.length c], .string s, .bool m] w fun e w' => e = .returned (.tuple #[.string (outG (rdG (tkB m xs s) xs s s.size () 0)).1, .bool (outG (rdG (tkB m xs s) xs s s.size () 0)).2]) ∧ Below w.heap.size w w' := by
  have hn : xs.length ≤ 10 := ((tableB_iff xs).1 ht).1.2
  have hl := h.len
  have HS := Lib.hid h
  have HT := Lib.hid ht
  have G := Lib.hid fun W hb => hG W (HS.out.below (w' := W) hb)
  have HO : ∃ R, outG (rdG (tkB m xs s) xs s s.size () 0) = R := ⟨_, rfl⟩
  obtain ⟨R, HO⟩ := HO
  have HO := Lib.hid HO
  rw [HO.out]
  clear h ht hG
  go_enter Try.func113, Try.ntmps113
  go_wp2_with fail
  refine (G.out _ (below_alloc _ _)).mono ?_
  rintro e w1 ⟨g, rfl, hg, hrow, hb⟩
  have hc1 : w1.cell? ⟨w.heap.size, 0, none⟩ = some (.slice a xs.length c) := (hb.cell (p := ⟨w.heap.size, 0, none⟩) (by simp)).trans (cell_new _ _ _)
  have HB := Lib.hid ((below_alloc w (.cells #[.slice a xs.length c] 26)).trans (hb.mono (by simp)))
  have d0 := hrow.cell (i := 0) (by omega)
  have HV := Lib.hid hrow
  have z0 : (0 : Int) < (s.size : Int) + 1 := by omega
  clear hb hrow
  have hb0 := bestAt_in m HT.out s 0 (by omega) h40
  by_cases hneg : bestAt m xs s 0 < 0
  · have HR : Hid (R = (⟨#[]⟩, false)) := Lib.hid (by rw [← HO.out, best_none m HT.out s hneg]; rfl)
    generalize bestAt m xs s 0 = y at d0 hneg
    go_wp2
    go_ret2
    exact ⟨by rw [HR.out]; rfl, HB.out⟩
  · have HN0 : Hid (bestAt m xs s 0 ≠ -1) := Lib.hid (by omega)
    generalize bestAt m xs s 0 = y at d0 hneg
    go_wp2
    clear d0
    go_loopw [9, 10] (fun mv pv wr => ∃ (p n : Nat) (l : Bs), mv = .string ⟨l.toArray⟩ ∧ pv = .int .i64 p ∧ p ≤ s.size ∧ l.length ≤ p ∧ Hid (bestAt m xs s p ≠ -1) ∧ Hid (s.size ≤ n + p) ∧ Hid (outG ((rdG (tkB m xs s) xs s n () p).map (l ++ ·)) = R) ∧ wr.cell? ⟨w.heap.size, 0, none⟩ = some (.slice a xs.length c) ∧ Hid (wr.rowIs g 3 (s.size + 1) (fun j => .int .i64 (bestAt m xs s j))) ∧ Hid (Below w.heap.size w wr)) (fun _ pv _ => s.size - (intOf pv).toNat)
    case atStart => exact ⟨0, s.size, [], rfl, rfl, Nat.zero_le _, by simp, HN0, Lib.hid (by omega), Lib.hid (by rw [← HO.out]; cases rdG (tkB m xs s) xs s s.size () 0 <;> rfl), hc1, HV, HB⟩
    case round =>
      obtain ⟨p, n, l, rfl, rfl, hp, hlp, HNp, HN, HE, hc3, HV3, HB3⟩ := hrel
      by_cases hlt : p < s.size
      · obtain ⟨n', rfl⟩ : ∃ n', n = n' + 1 := ⟨n - 1, by have := HN.out; omega⟩
        have i1 : (0 : Int) ≤ (p : Int) := by omega
        have i2 : (p : Int) < (s.size : Int) := by omega
        have i3 : (p : Int) < (s.size : Int) + 1 := by omega
        obtain ⟨f0, x0, hx0, _, _, hy1, hsc0⟩ := scan_found m HT.out s hlt HNp.out
        have HSc0 := Lib.hid hsc0
        have hpos : 0 < xs.length := by have := (List.getElem?_eq_some_iff.1 hx0).1; omega
        clear hx0 hsc0
        go_wp2
        go_loopw [11] (fun jv wr2 => ∃ j : Nat, jv = .int .i64 j ∧ j < xs.length ∧ Hid (scanG (tkB m xs s) s p (xs.drop j) j () = scanG (tkB m xs s) s p xs 0 ()) ∧ wr2.cell? ⟨w.heap.size, 0, none⟩ = some (.slice a xs.length c) ∧ Hid (wr2.rowIs g 3 (s.size + 1) (fun j => .int .i64 (bestAt m xs s j))) ∧ Hid (Below w.heap.size w wr2)) (fun jv _ => xs.length - (intOf jv).toNat)
        case atStart => exact ⟨0, rfl, hpos, Lib.hid (by rw [List.drop_zero]), hc3, HV3, HB3⟩
        case round =>
          obtain ⟨j, rfl, hj, HSc, hc4, HV4, HB4⟩ := hrel
          obtain rfl := HS.out.src.1 (by omega)
          have hcell := (HS.out.below HB4.out).src.2 j _ (List.getElem?_eq_getElem hj)
          have HX := Lib.hid (List.getElem?_eq_getElem hj)
          have hx1 := sizes_of HT.out _ (List.getElem_mem hj)
          generalize xs[j] = x at hcell HX hx1
          have HSt := Lib.hid fun w => stands_any s x p w (by omega) h40 hx1.2
          have j0 : (0 : Int) ≤ (j : Int) := by omega
          have j1 : (j : Int) < (xs.length : Int) := by omega
          have HNext : Hid (scanG (tkB m xs s) s p (xs.drop (j + 1)) (j + 1) () = scanG (tkB m xs s) s p xs 0 () → j + 1 < xs.length) := Lib.hid (fun e => by
            by_cases h : j + 1 < xs.length
            · exact h
            · have e2 : j + 1 = xs.length := by omega
              rw [e2, scanG_nil, HSc0.out] at e; cases e)
          clear hc1 hc3
          by_cases hst : stands s x p = true
          · have HSt2 := Lib.hid fun w => val_eqS (v' := .bool true) (HSt.out w) (by rw [hst])
            have hsz := stands_le (s := s) (m := x) (j := p) (by omega) hst
            have d1 := HV4.out.cell (i := p) (by omega)
            have d2 := HV4.out.cell (i := p + x.size) (by omega)
            have z1 : (0 : Int) ≤ (p : Int) + (x.size : Int) := by omega
            have z2 : (p : Int) + (x.size : Int) < (s.size : Int) + 1 := by omega
            have hb1 := bestAt_in m HT.out s p (by omega) h40
            have hb2 := bestAt_in m HT.out s (p + x.size) hsz h40
            have w1 : IntKind.i64.wrap ((p : Int) + (x.size : Int)) = (p : Int) + (x.size : Int) := by rw [IntKind.wrap_i64]; omega
            by_cases hy : bestAt m xs s (p + x.size) = bestAt m xs s p - 1
            · have HS2 : Hid (scanG (tkB m xs s) s p xs 0 () = some (j, (), x.size)) := Lib.hid (HSc.out.symm.trans (scanG_yes (tkB m xs s) s p j () HX.out hst (decide_eq_true ⟨by omega, by omega⟩)))
              have HNq : Hid (bestAt m xs s (p + x.size) ≠ -1) := Lib.hid (by omega)
              generalize bestAt m xs s p = y1 at d1 hb1 hy hy1
              generalize bestAt m xs s (p + x.size) = y2 at d2 hb2 hy
              have q1 : (y2 == y1 - 1) = true := by rw [hy]; exact beq_self_eq_true _
              have q2 : (y2 != y1 - 1) = false := by rw [bne, q1]; rfl
              have w2 : IntKind.i64.wrap (y1 - 1) = y1 - 1 := by rw [IntKind.wrap_i64]; omega
              have HLe := Lib.hid fun w => letterT_any j (by omega) w
              have HCt := Lib.hid (catB l (ba [UInt8.ofNat (97 + j)]))
              have hls : (ba [UInt8.ofNat (97 + j)]).size = 1 := rfl
              generalize hyy : ba [UInt8.ofNat (97 + j)] = y at HLe HCt hls
              have HY := Lib.hid hyy
              have p1 : ¬ 9223372036854775807 < l.length + y.size := by omega
              clear hst hyy hy
              go_wp2
              go_quiet ((go_at_call 105; exact Calls.quiet_of_same (HSt2.out _)))
              obtain ⟨W5, hW5⟩ : ∃ W5, W5 = wr.drewN nq := ⟨_, rfl⟩
              have hc5 : W5.cell? ⟨w.heap.size, 0, none⟩ = some (.slice (some ⟨b, o, none⟩) xs.length c) := by rw [hW5]; exact hc4
              have hcell5 : W5.cell? ⟨b, o + j, none⟩ = some (.string x) := by rw [hW5]; exact hcell
              have HV5 : Hid (W5.rowIs g 3 (s.size + 1) (fun j => .int .i64 (bestAt m xs s j))) := Lib.hid (by rw [hW5]; exact HV4.out)
              have HB5 : Hid (Below w.heap.size w W5) := Lib.hid (by rw [hW5]; exact HB4.out.trans ⟨rfl, rfl, rfl, Nat.le_refl _, fun _ _ => rfl⟩)
              rw [← hW5]
              clear hW5 hc4 hcell d1 d2
              have HXx := Lib.hid hx1
              go_wp2_with fail
              refine (HLe.out _).mono ?_
              rintro e w6 ⟨rfl, hb⟩
              have hc6 := (hb.cell (World.block_lt_of_cell? _ _ hc5)).trans hc5
              have HV6 := Lib.hid (rowIs_below HV5.out hb)
              have HB6 := Lib.hid (HB5.out.trans (hb.mono HB5.out.size))
              have hcell6 := (hb.cell (World.block_lt_of_cell? _ _ hcell5)).trans hcell5
              have HE2 : Hid (outG ((rdG (tkB m xs s) xs s n' () (p + x.size)).map ((l ++ [UInt8.ofNat (97 + j)]) ++ ·)) = R) := Lib.hid (by
                rw [← HE.out, rdG_some (tkB m xs s) xs s n' () hlt HS2.out, Option.map_map]
                congr 2
                funext r
                simp)
              have HL2 : Hid ((⟨l.toArray⟩ : ByteArray) ++ y = ⟨(l ++ [UInt8.ofNat (97 + j)]).toArray⟩) := Lib.hid (by rw [HCt.out, ← HY.out, bl_ba])
              clear hb hc5 hcell5
              go_wp2
              go_roundw
              case rel => exact ⟨p + x.size, n', l ++ [UInt8.ofNat (97 + j)], by rw [HL2.out], rfl, hsz, by simp; omega, HNq, Lib.hid (by have := HN.out; omega), HE2, hc6, HV6, HB6⟩
              case measure => simp [intOf]; omega
            · have HS2 : Hid (scanG (tkB m xs s) s p (xs.drop (j + 1)) (j + 1) () = scanG (tkB m xs s) s p xs 0 ()) := Lib.hid ((scanG_no (tkB m xs s) s p j () HX.out hst (decide_eq_false (fun h => hy (by omega)))).symm.trans HSc.out)
              have hj2 := HNext.out HS2.out
              generalize bestAt m xs s p = y1 at d1 hb1 hy hy1
              generalize bestAt m xs s (p + x.size) = y2 at d2 hb2 hy
              have q1 : (y2 == y1 - 1) = false := beq_false_of_ne hy
              have q2 : (y2 != y1 - 1) = true := by rw [bne, q1]; rfl
              have w2 : IntKind.i64.wrap (y1 - 1) = y1 - 1 := by rw [IntKind.wrap_i64]; omega
              clear hst
              go_wp2
              go_quiet ((go_at_call 105; exact Calls.quiet_of_same (HSt2.out _)))
              go_wp2
              go_roundw
              case rel => exact ⟨j + 1, by go_num, hj2, HS2, hc4, Lib.hid HV4.out, Lib.hid (HB4.out.trans ⟨rfl, rfl, rfl, Nat.le_refl _, fun _ _ => rfl⟩)⟩
              case measure => simp [intOf]; omega
          · have HSt2 := Lib.hid fun w => val_eqS (v' := .bool false) (HSt.out w) (by simp [hst])
            have HS2 : Hid (scanG (tkB m xs s) s p (xs.drop (j + 1)) (j + 1) () = scanG (tkB m xs s) s p xs 0 ()) := Lib.hid ((scanG_off (tkB m xs s) s p j () HX.out (by simpa using hst)).symm.trans HSc.out)
            have hj2 := HNext.out HS2.out
            clear hst
            go_wp2
            go_quiet ((go_at_call 105; exact Calls.quiet_of_same (HSt2.out _)))
            go_wp2
            go_roundw
            case rel => exact ⟨j + 1, by go_num, hj2, HS2, hc4, Lib.hid HV4.out, Lib.hid (HB4.out.trans ⟨rfl, rfl, rfl, Nat.le_refl _, fun _ _ => rfl⟩)⟩
            case measure => simp [intOf]; omega
      · obtain rfl : p = s.size := by omega
        have HE2 : Hid (R = (ba l, true)) := Lib.hid (by rw [← HE.out, rdG_end]; simp [outG])
        go_wp2
        go_ret2
        exact ⟨by rw [HE2.out]; rfl, HB3.out⟩

set_option maxRecDepth 8000 in
theorem sShortestReading_any (a : Option Addr) (b o c : Nat) (xs : List ByteArray) (s : ByteArray) (w : World) (h : ListIn w a b o xs) (hs : s.size ≤ maxLen) :
    Calls Try.prog 52 #[.agg #[.slice a xs.length c], .string s] w fun e w' => e = .returned (.tuple #[.string (bestR false xs s).1, .bool (bestR false xs s).2]) ∧ Below w.heap.size w w' := by
  have hl := h.len
  have F := Lib.hid fun W hb => sGood_any a b o c xs s W (h.below (w' := W) hb) hs
  have HS := Lib.hid h
  clear h
  by_cases hg : goodB xs s = true
  · obtain ⟨ht, hbr⟩ := goodB_iff.1 hg
    have h40 := bare_le hbr
    have F2 := Lib.hid fun W hb => val_eq (v' := .bool true) (F.out W hb) (by rw [hg])
    have G := Lib.hid fun W hb => sReading_any false a b o c xs s W (HS.out.below (w' := W) hb) ht h40 (fun W2 h2 => sBest_least a b o c xs s W2 h2 ht h40)
    have HR : Hid (bestR false xs s = outG (rdG (tkB false xs s) xs s s.size () 0)) := Lib.hid (if_pos hg)
    rw [HR.out]
    generalize outG (rdG (tkB false xs s) xs s s.size () 0) = R at G
    clear ht hbr F hg
    go_enter Try.func52, Try.ntmps52
    go_wp2_with fail
    refine (F2.out _ (below_alloc _ _)).mono ?_
    rintro e w1 ⟨rfl, hb⟩
    have hc1 : w1.cell? ⟨w.heap.size, 0, none⟩ = some (.slice a xs.length c) := (hb.cell (p := ⟨w.heap.size, 0, none⟩) (by simp)).trans (cell_new _ _ _)
    have HB := Lib.hid ((below_alloc w (.cells #[.slice a xs.length c] 26)).trans (hb.mono (by simp)))
    clear hb
    go_wp2_with fail
    refine (G.out _ HB.out).mono ?_
    rintro e w2 ⟨rfl, hb⟩
    have HB2 := Lib.hid (HB.out.trans (hb.mono HB.out.size))
    clear hb
    go_wp2
    go_ret2
    exact ⟨rfl, HB2.out⟩
  · have F2 := Lib.hid fun W hb => val_eq (v' := .bool false) (F.out W hb) (by simp [hg])
    have HR : Hid (bestR false xs s = (⟨#[]⟩, false)) := Lib.hid (if_neg hg)
    rw [HR.out]
    clear hg F
    go_enter Try.func52, Try.ntmps52
    go_wp2_with fail
    refine (F2.out _ (below_alloc _ _)).mono ?_
    rintro e w1 ⟨rfl, hb⟩
    have HB := Lib.hid ((below_alloc w (.cells #[.slice a xs.length c] 26)).trans (hb.mono (by simp)))
    clear hb
    go_wp2
    go_ret2
    exact ⟨rfl, HB.out⟩
theorem shortestReading_both (xs : List ByteArray) (s : ByteArray) (hl : xs.length ≤ 1048576) (ht : ∀ x ∈ xs, x.size ≤ 1048576) (hs : s.size ≤ 1048576) : ∃ (R0 : ByteArray) (R1 : Bool),
    Hid (∀ W a b o c, ListIn W a b o xs → Calls Try.prog 52 #[.agg #[.slice a xs.length c], .string s] W fun e W' => e = .returned (.tuple #[.string R0, .bool R1]) ∧ Below W.heap.size W W') ∧
    Hid (∀ W a b o c, ListIn W a b o xs → Calls Try.prog 53 #[.agg #[.slice a xs.length c], .string s] W fun e W' => e = .returned (.tuple #[.string R0, .bool R1]) ∧ Below W.heap.size W W') :=
  ⟨_, _, fun W a b o c h => sShortestReading_any a b o c xs s W h (by unfold maxLen; omega), fun W a b o c h => less_prog a b o c xs s W h (by unfold maxLen; omega)⟩

set_option maxRecDepth 8000 in
theorem sLongestReading_any (a : Option Addr) (b o c : Nat) (xs : List ByteArray) (s : ByteArray) (w : World) (h : ListIn w a b o xs) (hs : s.size ≤ maxLen) :
    Calls Try.prog 54 #[.agg #[.slice a xs.length c], .string s] w fun e w' => e = .returned (.tuple #[.string (bestR true xs s).1, .bool (bestR true xs s).2]) ∧ Below w.heap.size w w' := by
  have hl := h.len
  have F := Lib.hid fun W hb => sGood_any a b o c xs s W (h.below (w' := W) hb) hs
  have HS := Lib.hid h
  clear h
  by_cases hg : goodB xs s = true
  · obtain ⟨ht, hbr⟩ := goodB_iff.1 hg
    have h40 := bare_le hbr
    have F2 := Lib.hid fun W hb => val_eq (v' := .bool true) (F.out W hb) (by rw [hg])
    have G := Lib.hid fun W hb => sReading_any true a b o c xs s W (HS.out.below (w' := W) hb) ht h40 (fun W2 h2 => sBest_most a b o c xs s W2 h2 ht h40)
    have HR : Hid (bestR true xs s = outG (rdG (tkB true xs s) xs s s.size () 0)) := Lib.hid (if_pos hg)
    rw [HR.out]
    generalize outG (rdG (tkB true xs s) xs s s.size () 0) = R at G
    clear ht hbr F hg
    go_enter Try.func54, Try.ntmps54
    go_wp2_with fail
    refine (F2.out _ (below_alloc _ _)).mono ?_
    rintro e w1 ⟨rfl, hb⟩
    have hc1 : w1.cell? ⟨w.heap.size, 0, none⟩ = some (.slice a xs.length c) := (hb.cell (p := ⟨w.heap.size, 0, none⟩) (by simp)).trans (cell_new _ _ _)
    have HB := Lib.hid ((below_alloc w (.cells #[.slice a xs.length c] 26)).trans (hb.mono (by simp)))
    clear hb
    go_wp2_with fail
    refine (G.out _ HB.out).mono ?_
    rintro e w2 ⟨rfl, hb⟩
    have HB2 := Lib.hid (HB.out.trans (hb.mono HB.out.size))
    clear hb
    go_wp2
    go_ret2
    exact ⟨rfl, HB2.out⟩
  · have F2 := Lib.hid fun W hb => val_eq (v' := .bool false) (F.out W hb) (by simp [hg])
    have HR : Hid (bestR true xs s = (⟨#[]⟩, false)) := Lib.hid (if_neg hg)
    rw [HR.out]
    clear hg F
    go_enter Try.func54, Try.ntmps54
    go_wp2_with fail
    refine (F2.out _ (below_alloc _ _)).mono ?_
    rintro e w1 ⟨rfl, hb⟩
    have HB := Lib.hid ((below_alloc w (.cells #[.slice a xs.length c] 26)).trans (hb.mono (by simp)))
    clear hb
    go_wp2
    go_ret2
    exact ⟨rfl, HB.out⟩
theorem longestReading_both (xs : List ByteArray) (s : ByteArray) (hl : xs.length ≤ 1048576) (ht : ∀ x ∈ xs, x.size ≤ 1048576) (hs : s.size ≤ 1048576) : ∃ (R0 : ByteArray) (R1 : Bool),
    Hid (∀ W a b o c, ListIn W a b o xs → Calls Try.prog 54 #[.agg #[.slice a xs.length c], .string s] W fun e W' => e = .returned (.tuple #[.string R0, .bool R1]) ∧ Below W.heap.size W W') ∧
    Hid (∀ W a b o c, ListIn W a b o xs → Calls Try.prog 55 #[.agg #[.slice a xs.length c], .string s] W fun e W' => e = .returned (.tuple #[.string R0, .bool R1]) ∧ Below W.heap.size W W') :=
  ⟨_, _, fun W a b o c h => sLongestReading_any a b o c xs s W h (by unfold maxLen; omega), fun W a b o c h => more_prog a b o c xs s W h (by unfold maxLen; omega)⟩
end Go.Proofs.Ytekgmdigchobbaa
