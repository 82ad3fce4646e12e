/-
  SafeSubset of the program. Used by the claims on chapter 6.
-/
import Derived.Test.YtgdiffdpjpkleaaSafeW
import Derived.Test.YtgdiffdpjpkleaaMarkB
namespace Go.Proofs.Ytgdiffdpjpkleaa
open Go.RowKit Go.Maps
set_option linter.unusedVariables false

theorem enter_fn {f : FuncId} {fn : Func} {c : Code} (hf : Try.prog.funcs[f]? = some fn) (hname : (fn.name == "runtime.NumGoroutine") = false) (hb : fn.body = some c) (A : Array Value) (W : World) :
    Sem.run Try.prog (callFunc f A) W = .ok (.enter f A) W := by
  have h1 : fn.name ≠ "runtime.NumGoroutine" := by simpa using hname
  simp [callFunc, hf, h1, hb]
theorem enter_close (A : Array Value) (W : World) : Sem.run Try.prog (callFunc 103 A) W = .ok (.enter 103 A) W :=
  enter_fn (f := 103) Try.func103 (by rfl) (by rfl) A W
def safeL (xs : List ByteArray) : List Nat := if tableB xs = true then safeTo xs xs.length else []
theorem safeL_le (xs : List ByteArray) : (safeL xs).length ≤ xs.length := by
  unfold safeL
  split
  · exact safeTo_le _ _
  · simp

set_option maxHeartbeats 8000000 in
set_option maxRecDepth 8000 in
theorem safeSubset_any (a : Option Addr) (b o c : Nat) (xs : List ByteArray) (w : World) (h : ListIn w a b o xs) :
    Calls Try.prog 55 #[.agg #[.slice a xs.length c]] w (SeqOut (ints (safeL xs)) (safeL xs).length (tableB xs) w) := by
  have hl := h.len
  have F := Lib.hid fun W hb => isTable_any a b o c xs W (h.below (w' := W) hb)
  have HS := Lib.hid h
  clear h
  by_cases ht : tableB xs = true
  · have F2 := Lib.hid fun W hb => val_eq (v' := .bool true) (F.out W hb) (by rw [ht])
    have H5 := Lib.hid (marks5 ht)
    have hn10 := (table_le ht).2
    obtain ⟨i0, hi, hz0, hz1, hz2⟩ := info_parts infoI
    have HL : Hid (safeL xs = safeTo xs xs.length) := Lib.hid (if_pos ht)
    rw [ht, HL.out]
    clear ht F HL
    go_enter Try.func55, Try.ntmps55
    go_wp2_with fail
    refine (F2.out _ (below_alloc _ _)).mono ?_
    rintro e w1 ⟨rfl, hb⟩
    have hc1 : w1.cell? ⟨w.heap.size, 0, none⟩ = some (.slice a xs.length c) := (hb.cell (p := ⟨w.heap.size, 0, none⟩) (by simp)).trans (cell_new _ _ _)
    have HB1 := Lib.hid ((below_alloc w (.cells #[.slice a xs.length c] 32)).trans (hb.mono (by simp)))
    have hsz1 : w.heap.size + 1 ≤ w1.heap.size := by have := hb.size; simpa using this
    have HR1 := Lib.hid (row_empty w1 (w.heap.size + 1) hsz1)
    have hc2 := keep_cell w1 (Obj.cells #[] 3) hc1
    have HB2 := Lib.hid (HB1.out.alloc HB1.out.size (Obj.cells #[] 3))
    have HZ2 : Hid (w.heap.size + 1 ≤ (w1.alloc (Obj.cells #[] 3)).heap.size) := Lib.hid (by simp; omega)
    clear hb hc1
    go_wp2
    go_loopw [4, 15] (fun pv v wr => ∃ k : Nat, v = .int .i64 k ∧ k ≤ xs.length ∧ wr.ownsRow (w.heap.size + 1) 3 1 pv (safeTo xs k).length (ints (safeTo xs k)) ∧ wr.cell? ⟨w.heap.size, 0, none⟩ = some (.slice a xs.length c) ∧ Hid (Below w.heap.size w wr) ∧ Hid (w.heap.size + 1 ≤ wr.heap.size)) (fun _ v _ => xs.length - (intOf v).toNat)
    case atStart => exact ⟨0, rfl, Nat.zero_le _, HR1.out, hc2, HB2, HZ2⟩
    case round =>
      clear hc2
      obtain ⟨k, rfl, hk, hown, hc1, HB, HZ⟩ := hrel
      by_cases hlt : k < xs.length
      · obtain ⟨av, gv, capv, hpv, hsv, hgv, hfv⟩ := seq_of_row hown
        subst hpv
        obtain rfl := HS.out.src.1 (by omega)
        have hcell := (HS.out.below HB.out).src.2 k _ (List.getElem?_eq_getElem hlt)
        have HX := Lib.hid (atB_eq (List.getElem?_eq_getElem hlt))
        have hx5 := H5.out _ (List.getElem_mem hlt)
        generalize xs[k] = x at hcell HX hx5
        have HA0 := Lib.hid (below_alloc wr (.cells #[.string x] 9))
        have HCl : Hid (∀ W j, j ∈ safeTo xs k → Below (wr.alloc (.cells #[.string x] 9)).heap.size (wr.alloc (.cells #[.string x] 9)) W → Calls Try.prog 103 (#[.int .i64 (j : Int)] ++ #[.pointer (some ⟨w.heap.size, 0, none⟩), .pointer (some ⟨wr.heap.size, 0, none⟩)]) W fun e w' => e = .returned (.bool (closeB xs k j)) ∧ Below W.heap.size W w') := Lib.hid fun W j hj hb => by
          have hj2 := safeTo_mem xs k j hj
          have h1 := isClose_any (some ⟨b, o, none⟩) b o c w.heap.size wr.heap.size j xs x W (HS.out.below (HB.out.trans ((HA0.out.trans (hb.mono (by simp))).mono HB.out.size))) H5.out hx5 (by omega) (cell_below hb (keep_cell _ _ hc1)) (cell_below hb (cell_new _ _ _))
          have e1 : decide (dist (bl (atB xs j)) (bl x) < 2) = closeB xs k j := by
            unfold closeB farP farB
            rw [HX.out, dist_comm]
          rw [e1] at h1
          exact h1
        have HCon := Lib.hid (containsFunc_any 103 #[.pointer (some ⟨w.heap.size, 0, none⟩), .pointer (some ⟨wr.heap.size, 0, none⟩)] enter_close (closeB xs k) (safeTo xs k) av gv capv (wr.alloc (.cells #[.string x] 9)) (hsv.alloc _) (by have := safeTo_le xs k; omega) HCl.out)
        have hle := safeTo_le xs k
        have HSt : Hid (safeTo xs (k + 1) = if (safeTo xs k).any (closeB xs k) = true then safeTo xs k else safeTo xs k ++ [k]) := Lib.hid rfl
        have HOw := Lib.hid (hown.alloc (.cells #[.string x] 9))
        have hbx := keep_cell wr (.cells #[.string x] 9) hc1
        have HBx := Lib.hid (HB.out.alloc HB.out.size (.cells #[.string x] 9))
        have hszr := HZ.out
        have HZx : Hid (w.heap.size + 1 ≤ (wr.alloc (.cells #[.string x] 9)).heap.size) := Lib.hid (by simp; omega)
        clear hown hsv hgv hfv HCl
        cases hq : (safeTo xs k).any (closeB xs k) with
        | true =>
          rw [hq] at HCon
          have HE : Hid (safeTo xs (k + 1) = safeTo xs k) := Lib.hid (by rw [HSt.out, if_pos hq])
          clear hq HSt
          generalize safeTo xs k = ys at HCon hle HOw HE
          go_wp2_with fail
          refine HCon.out.mono ?_
          rintro e w2 ⟨rfl, hb⟩
          have hc3 : w2.cell? ⟨w.heap.size, 0, none⟩ = some (.slice (some ⟨b, o, none⟩) xs.length c) := cell_below hb hbx
          have HB3 := Lib.hid (HBx.out.trans (hb.mono HBx.out.size))
          have hsz3 : w.heap.size + 1 ≤ w2.heap.size := Nat.le_trans HZx.out hb.size
          have HO3 := Lib.hid (row_below HOw.out hb)
          have HZ3 := Lib.hid hsz3
          clear hb hbx
          have HO4 : Hid (w2.ownsRow (w.heap.size + 1) 3 1 (.slice av ys.length capv) (safeTo xs (k + 1)).length (ints (safeTo xs (k + 1)))) := Lib.hid (by rw [HE.out]; exact HO3.out)
          go_wp2
          go_roundw
          case rel => exact ⟨k + 1, by go_num, by omega, HO4.out, hc3, HB3, HZ3⟩
          case measure => simp [intOf]; omega
        | false =>
          rw [hq] at HCon
          have HE : Hid (safeTo xs (k + 1) = safeTo xs k ++ [k]) := Lib.hid (by rw [HSt.out, if_neg (by rw [hq]; simp)])
          clear hq HSt
          generalize safeTo xs k = ys at HCon hle HOw HE
          go_wp2_with fail
          refine HCon.out.mono ?_
          rintro e w2 ⟨rfl, hb⟩
          have hc3 : w2.cell? ⟨w.heap.size, 0, none⟩ = some (.slice (some ⟨b, o, none⟩) xs.length c) := cell_below hb hbx
          have HB3 := Lib.hid (HBx.out.trans (hb.mono HBx.out.size))
          have hsz3 : w.heap.size + 1 ≤ w2.heap.size := Nat.le_trans HZx.out hb.size
          have HO3 := Lib.hid (row_below HOw.out hb)
          have HZ3 := Lib.hid hsz3
          clear hb hbx
          have HLt3 : Hid (∀ q, (Value.slice av ys.length capv).ownBlock = some q → w.heap.size + 1 ≤ q) := Lib.hid fun q e => (ownBlock_ge HO3.out e).1
          go_wp2_with (first | (at_builtin; refine wpList_append_lies _ rfl _ _ 29 rfl (w.heap.size + 1) 3 i0 (.int .i64 0) 1 8 Try.underlying29 hi hz0 hz1 hz2 rfl (by decide) (.slice av ys.length capv) ys.length (ints ys) rfl (HO3.out.alloc _) ⟨w2.heap.size, 0, none⟩ 1 1 [.int .i64 (k : Int)] rfl rfl (cell_one_new _ _ _) (by simp [Value.oneCell']) (by omega) (by unfold maxLen; omega) (by omega) (by simp; omega) (w2.heap.size + 1) (by simp) ?_; intro gg capg w4 hown4 hgrow4 hat4 hglt4) | go_in)
          have HW4 : Hid (w4.ownsRow (w.heap.size + 1) 3 1 (.slice (some ⟨gg, 0, none⟩) (ys.length + 1) capg) (safeTo xs (k + 1)).length (ints (safeTo xs (k + 1)))) := Lib.hid (by rw [HE.out, ints_snoc]; simpa using hown4)
          have hc4 : w4.cell? ⟨w.heap.size, 0, none⟩ = some (.slice (some ⟨b, o, none⟩) xs.length c) := (World.cell?_of_block (a := ⟨w.heap.size, 0, none⟩) (hgrow4.block w.heap.size (by simp; omega) (fun e => by have := HLt3.out _ e.symm; omega))).trans (keep_cell _ _ hc3)
          have HB4 : Hid (Below w.heap.size w w4) := Lib.hid ((HB3.out.alloc HB3.out.size _).grown hgrow4 (by have := HB3.out.size; simp; omega) (fun q e => by have := HLt3.out q e; omega))
          have HZ4 : Hid (w.heap.size + 1 ≤ w4.heap.size) := Lib.hid (Nat.le_trans hsz3 (Nat.le_trans (by simp) hgrow4.size))
          clear hown4 hgrow4 hat4 hglt4 hc3
          go_wp2
          go_roundw
          case rel => exact ⟨k + 1, by go_num, by omega, HW4.out, hc4, HB4, HZ4⟩
          case measure => simp [intOf]; omega
      · obtain rfl : k = xs.length := by omega
        have HO3 := Lib.hid (row_mono hown (Nat.le_succ w.heap.size))
        clear hown
        go_wp2
        go_ret2
        exact seqOut_row HO3.out (Nat.le_refl _) HB.out
  · have F2 := Lib.hid fun W hb => val_eq (v' := .bool false) (F.out W hb) (by simp [ht])
    have HL : Hid (safeL xs = []) := Lib.hid (if_neg ht)
    have ht' : tableB xs = false := by simpa using ht
    rw [ht', HL.out]
    clear ht ht' F HL
    go_enter Try.func55, Try.ntmps55
    go_wp2_with fail
    refine (F2.out _ (below_alloc _ _)).mono ?_
    rintro e w1 ⟨rfl, hb⟩
    have HB := Lib.hid ((below_alloc w (.cells #[.slice a xs.length c] 32)).trans (hb.mono (by simp)))
    clear hb
    go_wp2
    go_ret2
    exact seqOut_nothing HB.out _ _
end Go.Proofs.Ytgdiffdpjpkleaa
