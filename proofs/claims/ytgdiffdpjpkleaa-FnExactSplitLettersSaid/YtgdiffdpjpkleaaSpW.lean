/-
  SplitLetters of the program: the first two letters of the triples whose third one is a letter. Used by the claims on chapter 6.
-/
import Derived.Test.YtgdiffdpjpkleaaJlS
import Derived.Test.YtgdiffdpjpkleaaLbS
namespace Go.Proofs.Ytgdiffdpjpkleaa
open Go.RowKit Go.Maps Go.WideMaps
set_option linter.unusedVariables false

def spTo (l : List (Nat × Nat × Nat)) (t k : Nat) : List (Nat × Nat) := ((l.take k).filter fun p => p.2.2 == t).map fun p => (p.1, p.2.1)
theorem spTo_succ {l : List (Nat × Nat × Nat)} {t k : Nat} (h : k < l.length) : spTo l t (k + 1) = spTo l t k ++ (if l[k].2.2 = t then [(l[k].1, l[k].2.1)] else []) := by
  unfold spTo
  rw [List.take_add_one, List.getElem?_eq_getElem h, List.filter_append, List.map_append]
  by_cases e : l[k].2.2 = t <;> simp [e]
theorem spTo_le (l : List (Nat × Nat × Nat)) (t k : Nat) : (spTo l t k).length ≤ l.length := by
  unfold spTo
  rw [List.length_map]
  have h1 := List.length_filter_le (fun p : Nat × Nat × Nat => p.2.2 == t) (l.take k)
  have h2 := List.length_take_le' k l
  omega
def spL (xs : List ByteArray) (i : Int) : List (Nat × Nat) := if (marksR xs i).2 = true then spTo (joinsTo xs xs.length 0) i.toNat (joinsTo xs xs.length 0).length else []
theorem joins_le100 {xs : List ByteArray} (h : xs.length ≤ 10) : (joinsTo xs xs.length 0).length ≤ 100 := by
  have h1 := joinsTo_le xs xs.length 0
  have h3 : xs.length * xs.length ≤ 10 * 10 := Nat.mul_le_mul h h
  omega
theorem spL_le (xs : List ByteArray) (i : Int) : (spL xs i).length ≤ 100 := by
  unfold spL
  by_cases h : (marksR xs i).2 = true
  · rw [if_pos h]
    exact Nat.le_trans (spTo_le _ _ _) (joins_le100 (table_le (marksR_yes h).1).2)
  · rw [if_neg h]; simp

set_option maxHeartbeats 8000000 in
set_option maxRecDepth 8000 in
theorem splitLetters_any (a : Option Addr) (b o c : Nat) (xs : List ByteArray) (i : Int) (w : World) (h : ListIn w a b o xs) :
    Calls Try.prog 50 #[.agg #[.slice a xs.length c], .int .i64 i] w (SeqOut (prs (spL xs i)) (spL xs i).length (marksR xs i).2 w) := by
  have hl := h.len
  have F := Lib.hid fun W hb => marksOf_any a b o c xs i W (h.below (w' := W) hb)
  have J := Lib.hid fun W hb => joinedLetters_any a b o c xs W (h.below (w' := W) hb)
  clear h
  cases hm : (marksR xs i).2 with
  | false =>
    have HL : Hid (spL xs i = []) := Lib.hid (if_neg (by rw [hm]; simp))
    rw [HL.out]
    rw [hm, marksR_no hm] at F
    clear hm
    generalize tableB xs = q at J
    generalize jlL xs = ys at J
    go_enter Try.func50, Try.ntmps50
    go_wp2_with fail
    refine (F.out _ (below_alloc _ _)).mono ?_
    rintro e w1 ⟨rfl, hb⟩
    have hc1 : w1.cell? ⟨w.heap.size, 0, none⟩ = some (.slice a xs.length c) := (hb.cell (p := ⟨w.heap.size, 0, none⟩) (by simp)).trans (cell_new _ _ _)
    have HB := Lib.hid ((below_alloc w (.cells #[.slice a xs.length c] 32)).trans (hb.mono (by simp)))
    clear hb
    go_wp2_with fail
    refine (J.out _ HB.out).mono ?_
    rintro e w2 ⟨a1, g1, c1, rfl, _, _, _, hb⟩
    have HB2 := Lib.hid (HB.out.trans (hb.mono HB.out.size))
    clear hb hc1
    go_wp2
    go_ret2
    exact seqOut_nothing HB2.out _ _
  | true =>
    obtain ⟨ht, hi0, hin, hx⟩ := marksR_yes hm
    obtain ⟨n, rfl⟩ : ∃ n : Nat, i = (n : Int) := ⟨i.toNat, by omega⟩
    have HJl : Hid (jlL xs = joinsTo xs xs.length 0) := Lib.hid (if_pos ht)
    have hy := joins_le100 (table_le ht).2
    have HL : Hid (spL xs n = spTo (joinsTo xs xs.length 0) n (joinsTo xs xs.length 0).length) := Lib.hid (by unfold spL; rw [if_pos hm, Int.toNat_natCast])
    rw [HL.out]
    rw [hm] at F
    rw [ht, HJl.out] at J
    obtain ⟨i0, hi', hz0, hz1, hz2⟩ := info_parts infoPair
    clear hm hx HJl HL ht
    generalize joinsTo xs xs.length 0 = ys at J hy ⊢
    generalize (marksR xs n).1 = x at F
    go_enter Try.func50, Try.ntmps50
    go_wp2_with fail
    refine (F.out _ (below_alloc _ _)).mono ?_
    rintro e w1 ⟨rfl, hb⟩
    have hc1 : w1.cell? ⟨w.heap.size, 0, none⟩ = some (.slice a xs.length c) := (hb.cell (p := ⟨w.heap.size, 0, none⟩) (by simp)).trans (cell_new _ _ _)
    have HB := Lib.hid ((below_alloc w (.cells #[.slice a xs.length c] 32)).trans (hb.mono (by simp)))
    clear hb
    go_wp2_with fail
    refine (J.out _ HB.out).mono ?_
    rintro e w3 ⟨a1, g1, c1, rfl, hs1, _, _, hb⟩
    have HB3 := Lib.hid (HB.out.trans (hb.mono HB.out.size))
    have HSr := Lib.hid hs1
    have HR3 := Lib.hid (row_emptyP w3 w3.heap.size (Nat.le_refl _))
    have HA3 := Lib.hid (below_alloc w3 (Obj.cells #[] 79))
    clear hb hc1 hs1
    go_wp2
    go_loopw [10, 33] (fun pv v wr => ∃ k : Nat, v = .int .i64 k ∧ k ≤ ys.length ∧ wr.ownsRow w3.heap.size 79 2 pv (spTo ys n k).length (prs (spTo ys n k)) ∧ Hid (Below w3.heap.size w3 wr)) (fun _ v _ => ys.length - (intOf v).toNat)
    case atStart => exact ⟨0, rfl, Nat.zero_le _, HR3.out, HA3⟩
    case round =>
      obtain ⟨k, rfl, hk, hown, HB⟩ := hrel
      obtain ⟨av, capv, rfl⟩ := row_form hown
      by_cases hlt : k < ys.length
      · have hp0 : 0 < (trs ys).length := by rw [trs_len]; omega
        obtain rfl := HSr.out.1 hp0
        have d1 := (HSr.out.below HB.out).2 _ _ (trs_at hlt).1
        have d2 := (HSr.out.below HB.out).2 _ _ (trs_at hlt).2.1
        have d3 := (HSr.out.below HB.out).2 _ _ (trs_at hlt).2.2
        have e2 : k * 3 = 3 * k := Nat.mul_comm _ _
        rw [← e2] at d1 d2 d3
        clear e2
        have HSn := Lib.hid (spTo_succ (t := n) hlt)
        generalize ys[k].1 = p1 at d1 HSn
        generalize ys[k].2.1 = p2 at d2 HSn
        generalize ys[k].2.2 = p3 at d3 HSn
        have hpl : (spTo ys n k).length ≤ 100 := Nat.le_trans (spTo_le ys n k) hy
        have HOw := Lib.hid hown
        generalize spTo ys n k = ps at HOw HSn hpl
        clear hown
        have HLt : Hid (∀ q, (Value.slice av ps.length capv).ownBlock = some q → w3.heap.size ≤ q) := Lib.hid fun q e => (ownBlock_ge HOw.out e).1
        have hszr := HB.out.size
        have k1 : (0 : Int) ≤ (k : Int) := by omega
        have k2 : (k : Int) < (ys.length : Int) := by omega
        by_cases he : p3 = n
        · have HE : Hid (spTo ys n (k + 1) = ps ++ [(p1, p2)]) := Lib.hid (by rw [HSn.out, if_pos he])
          have t1 : ((p3 : Int) == (n : Int)) = true := by rw [he]; simp
          have e1 : (wr.alloc (.cells #[.int .i64 (p1 : Int), .int .i64 (p2 : Int), .int .i64 (p3 : Int)] 76)).heap.size = wr.heap.size + 1 := by simp
          have HNW := Lib.hid (cell_two_new (wr.alloc (.cells #[.int .i64 (p1 : Int), .int .i64 (p2 : Int), .int .i64 (p3 : Int)] 76)) (.int .i64 (p1 : Int)) (.int .i64 (p2 : Int)) 79)
          rw [e1] at HNW
          have HOb := Lib.hid (HOw.out.alloc (.cells #[.int .i64 (p1 : Int), .int .i64 (p2 : Int), .int .i64 (p3 : Int)] 76))
          have HBb := Lib.hid (HB.out.alloc HB.out.size (.cells #[.int .i64 (p1 : Int), .int .i64 (p2 : Int), .int .i64 (p3 : Int)] 76))
          clear he HSn e1
          go_wp2_with (first
            | (at_builtin; refine wpList_append_lies _ rfl _ _ 44 rfl w3.heap.size 79 i0 (.agg #[.int .i64 0, .int .i64 0]) 2 16 Try.underlying44 hi' hz0 hz1 hz2 rfl (by decide) (.slice av ps.length capv) ps.length (prs ps) rfl (HOb.out.alloc _) ⟨wr.heap.size + 1, 0, none⟩ 1 1 [.int .i64 (p1 : Int), .int .i64 (p2 : Int)] rfl rfl HNW.out (by simp [Value.oneCell']) (by omega) (by unfold maxLen; omega) (by omega) (by simp; omega) (wr.heap.size + 1 + 1) (by simp) ?_; intro gg capg w5 hown5 hgrow5 hat5 hglt5)
            | go_in)
          have HW5 : Hid (w5.ownsRow w3.heap.size 79 2 (.slice (some ⟨gg, 0, none⟩) (ps.length + 1) capg) (spTo ys n (k + 1)).length (prs (spTo ys n (k + 1)))) := Lib.hid (by rw [HE.out, prs_snoc]; simpa using hown5)
          have HB5 : Hid (Below w3.heap.size w3 w5) := Lib.hid ((HBb.out.alloc HBb.out.size _).grown hgrow5 (by have := HB.out.size; simp; omega) (fun q e => HLt.out q e))
          clear hown5 hgrow5 hat5 hglt5
          go_wp2
          go_roundw
          case rel => exact ⟨k + 1, by go_num, by omega, HW5.out, HB5⟩
          case measure => simp [intOf]; omega
        · have HE : Hid (spTo ys n (k + 1) = ps) := Lib.hid (by rw [HSn.out, if_neg he, List.append_nil])
          have t1 : ((p3 : Int) == (n : Int)) = false := beq_false_of_ne (by omega)
          have HOb := Lib.hid (HOw.out.alloc (.cells #[.int .i64 (p1 : Int), .int .i64 (p2 : Int), .int .i64 (p3 : Int)] 76))
          have HBb := Lib.hid (HB.out.alloc HB.out.size (.cells #[.int .i64 (p1 : Int), .int .i64 (p2 : Int), .int .i64 (p3 : Int)] 76))
          have HW5 : Hid ((wr.alloc (.cells #[.int .i64 (p1 : Int), .int .i64 (p2 : Int), .int .i64 (p3 : Int)] 76)).ownsRow w3.heap.size 79 2 (.slice av ps.length capv) (spTo ys n (k + 1)).length (prs (spTo ys n (k + 1)))) := Lib.hid (by rw [HE.out]; exact HOb.out)
          clear he HSn
          go_wp2
          go_roundw
          case rel => exact ⟨k + 1, by go_num, by omega, HW5.out, HBb⟩
          case measure => simp [intOf]; omega
      · obtain rfl : k = ys.length := by omega
        have HO3 := Lib.hid (row_mono hown HB3.out.size)
        have HBw := Lib.hid (HB3.out.trans (HB.out.mono HB3.out.size))
        clear hown
        go_wp2
        go_ret2
        exact seqOut_row HO3.out (Nat.le_refl _) HBw.out
end Go.Proofs.Ytgdiffdpjpkleaa
