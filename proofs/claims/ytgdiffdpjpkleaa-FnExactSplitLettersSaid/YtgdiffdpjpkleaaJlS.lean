/-
  l6Joined, JoinedLetters of the model, and both together. Used by the claims on chapter 6.
-/
import Derived.Test.YtgdiffdpjpkleaaJlW
namespace Go.Proofs.Ytgdiffdpjpkleaa
open Go.RowKit Go.Maps Go.WideMaps
set_option linter.unusedVariables false

def JRow (xs : List ByteArray) (w : World) (e : Ending) (w' : World) : Prop :=
  ∃ v, e = .returned v ∧ w'.ownsRow w.heap.size 76 3 v (joinsTo xs xs.length 0).length (trs (joinsTo xs xs.length 0)) ∧ Below w.heap.size w w'
set_option maxHeartbeats 8000000 in
set_option maxRecDepth 8000 in
theorem sJoined_any (a : Option Addr) (b o c : Nat) (xs : List ByteArray) (w : World) (h : ListIn w a b o xs) (h5 : ∀ x ∈ xs, x.size ≤ 5) (hn10 : xs.length ≤ 10) :
    Calls Try.prog 98 #[.agg #[.slice a xs.length c]] w (JRow xs w) := by
  have hl := h.len
  have HS := Lib.hid h
  have H5 := Lib.hid h5
  obtain ⟨i0, hi', hz0, hz1, hz2⟩ := info_parts infoTri
  have e0 : (w.alloc (.cells #[.slice a xs.length c] 32)).heap.size = w.heap.size + 1 := by simp
  have HR0 : Hid (((w.alloc (.cells #[.slice a xs.length c] 32)).alloc (Obj.cells #[] 76)).ownsRow (w.heap.size + 1) 76 3 (.slice (some ⟨w.heap.size + 1, 0, none⟩) 0 0) 0 (trs [])) := Lib.hid (by
    have := World.ownsRow_made (base := w.heap.size + 1) (e := 76) (size := 3) (w.alloc (.cells #[.slice a xs.length c] 32)) #[] 0 (by simp) (by unfold maxLen; omega) rfl
    rw [e0] at this
    exact this)
  have HB0 := Lib.hid ((below_alloc w (.cells #[.slice a xs.length c] 32)).alloc (by simp) (Obj.cells #[] 76))
  have hc0 := keep_cell (w.alloc (.cells #[.slice a xs.length c] 32)) (Obj.cells #[] 76) (cell_new w (.slice a xs.length c) 32)
  have HZ0 : Hid (w.heap.size + 1 ≤ ((w.alloc (.cells #[.slice a xs.length c] 32)).alloc (Obj.cells #[] 76)).heap.size) := Lib.hid (by simp)
  clear h h5 e0
  go_enter Try.func98, Try.ntmps98
  go_wp2
  go_loopw [3, 4] (fun pv v wr => ∃ i : Nat, v = .int .i64 i ∧ i ≤ xs.length ∧ wr.ownsRow (w.heap.size + 1) 76 3 pv (joinsTo xs i 0).length (trs (joinsTo xs i 0)) ∧ wr.cell? ⟨w.heap.size, 0, none⟩ = some (.slice a xs.length c) ∧ Hid (Below w.heap.size w wr) ∧ Hid (w.heap.size + 1 ≤ wr.heap.size)) (fun _ v _ => xs.length - (intOf v).toNat)
  case atStart => exact ⟨0, rfl, Nat.zero_le _, HR0.out, hc0, HB0, HZ0⟩
  case round =>
    clear hc0
    obtain ⟨i, rfl, hi, hown, hc1, HB, HZ⟩ := hrel
    by_cases hlt : i < xs.length
    · obtain rfl := HS.out.src.1 (by omega)
      have HXi := Lib.hid (atB_eq (List.getElem?_eq_getElem hlt))
      have hx5 := H5.out _ (List.getElem_mem hlt)
      have HCi := Lib.hid fun W (hb : Below w.heap.size w W) => (HS.out.below hb).src.2 i _ (List.getElem?_eq_getElem hlt)
      generalize xs[i] = xi at HCi HXi hx5
      go_wp2
      go_loopw [3, 5] (fun pv v wr => ∃ k : Nat, v = .int .i64 k ∧ k ≤ xs.length ∧ wr.ownsRow (w.heap.size + 1) 76 3 pv (joinsTo xs i k).length (trs (joinsTo xs i k)) ∧ wr.cell? ⟨w.heap.size, 0, none⟩ = some (.slice (some ⟨b, o, none⟩) xs.length c) ∧ Hid (Below w.heap.size w wr) ∧ Hid (w.heap.size + 1 ≤ wr.heap.size)) (fun _ v _ => xs.length - (intOf v).toNat)
      case atStart => exact ⟨0, rfl, Nat.zero_le _, hown, hc1, HB, HZ⟩
      case round =>
        clear hown hc1 HB HZ
        obtain ⟨k, rfl, hk, hown, hc1, HB, HZ⟩ := hrel
        obtain ⟨av, capv, rfl⟩ := row_form hown
        by_cases hkl : k < xs.length
        · have hcI := HCi.out _ HB.out
          have hcK := (HS.out.below HB.out).src.2 k _ (List.getElem?_eq_getElem hkl)
          have HXk := Lib.hid (atB_eq (List.getElem?_eq_getElem hkl))
          have hy5 := H5.out _ (List.getElem_mem hkl)
          generalize xs[k] = xk at hcK HXk hy5
          have HJs := Lib.hid (joinsTo_succ xs i k)
          have hle := joinsTo_le xs i k
          have hle2 : i * xs.length ≤ 10 * 10 := Nat.mul_le_mul (by omega) (by omega)
          have hpl : (joinsTo xs i k).length ≤ 1000 := by omega
          have HTr : Hid (tripJ xs i k = match placeB xs (xi ++ xk) with | some t => [(i, k, t)] | none => []) := Lib.hid (by unfold tripJ; rw [HXi.out, HXk.out]; cases placeB xs (xi ++ xk) <;> rfl)
          have HPl0 := Lib.hid fun q => place_any (some ⟨b, o, none⟩) b o c xs (xi ++ xk) (wr.drewN q) ((HS.out.below HB.out).src.drewN q) hl
          have HOw := Lib.hid hown
          generalize joinsTo xs i k = ys at HOw HJs hpl
          clear hown hle hle2
          have HLt : Hid (∀ q, (Value.slice av ys.length capv).ownBlock = some q → w.heap.size + 1 ≤ q) := Lib.hid fun q e => (ownBlock_ge HOw.out e).1
          have i1 : (0 : Int) ≤ (i : Int) := by omega
          have i2 : (i : Int) < (xs.length : Int) := by omega
          have k1 : (0 : Int) ≤ (k : Int) := by omega
          have k2 : (k : Int) < (xs.length : Int) := by omega
          have hszr := HZ.out
          cases hp : placeB xs (xi ++ xk) with
          | some t =>
            have HE : Hid (joinsTo xs i (k + 1) = ys ++ [(i, k, t)]) := Lib.hid (by rw [HJs.out, HTr.out]; simp [hp])
            have HPl : Hid (∀ q, Calls Try.prog 120 #[.slice (some ⟨b, o, none⟩) xs.length c, .string (xi ++ xk)] (wr.drewN q) fun e w' => e = .returned (.int .i64 (t : Int)) ∧ w' = wr.drewN q) := Lib.hid fun q => by have := HPl0.out q; rw [hp] at this; exact this
            have t0 : (0 : Int) ≤ (t : Int) := by omega
            clear hp HJs HTr HPl0
            go_wp2
            go_quiet ((go_at_call 120; exact Calls.quiet_of_same (HPl.out _)))
            have HO2 : Hid ((wr.drewN nq).ownsRow (w.heap.size + 1) 76 3 (.slice av ys.length capv) ys.length (trs ys)) := Lib.hid HOw.out
            have HB2 : Hid (Below w.heap.size w (wr.drewN nq)) := Lib.hid (below_drewN' HB.out)
            have hc2 : (wr.drewN nq).cell? ⟨w.heap.size, 0, none⟩ = some (.slice (some ⟨b, o, none⟩) xs.length c) := hc1
            have hsz2 : w.heap.size + 1 ≤ (wr.drewN nq).heap.size := hszr
            generalize wr.drewN nq = w2 at HO2 HB2 hc2 hsz2 ⊢
            clear hc1 hcI hcK
            go_wp2_with (first
              | (at_builtin; refine wpList_append_lies _ rfl _ _ 53 rfl (w.heap.size + 1) 76 i0 (.agg #[.int .i64 0, .int .i64 0, .int .i64 0]) 3 24 Try.underlying53 hi' hz0 hz1 hz2 rfl (by decide) (.slice av ys.length capv) ys.length (trs ys) rfl (HO2.out.alloc _) ⟨w2.heap.size, 0, none⟩ 1 1 [.int .i64 (i : Int), .int .i64 (k : Int), .int .i64 (t : Int)] rfl rfl (cell_three_new _ _ _ _ _) (by simp [Value.oneCell']) (by omega) (by unfold maxLen; omega) (by omega) (by simp; omega) (w2.heap.size + 1) (by simp) ?_; intro gg capg w5 hown5 hgrow5 hat5 hglt5)
              | go_in)
            have HW5 : Hid (w5.ownsRow (w.heap.size + 1) 76 3 (.slice (some ⟨gg, 0, none⟩) (ys.length + 1) capg) (joinsTo xs i (k + 1)).length (trs (joinsTo xs i (k + 1)))) := Lib.hid (by rw [HE.out, trs_snoc]; simpa using hown5)
            have HB5 : Hid (Below w.heap.size w w5) := Lib.hid ((HB2.out.alloc HB2.out.size _).grown hgrow5 (by have := HB2.out.size; simp; omega) (fun q e => by have := HLt.out q e; omega))
            have hc5 : w5.cell? ⟨w.heap.size, 0, none⟩ = some (.slice (some ⟨b, o, none⟩) xs.length c) := (World.cell?_of_block (a := ⟨w.heap.size, 0, none⟩) (hgrow5.block w.heap.size (by simp; omega) (fun e => by have := HLt.out _ e.symm; omega))).trans (keep_cell _ _ hc2)
            have HZ5 : Hid (w.heap.size + 1 ≤ w5.heap.size) := Lib.hid (Nat.le_trans hsz2 (Nat.le_trans (by simp) hgrow5.size))
            clear hown5 hgrow5 hat5 hglt5 hc2
            go_wp2
            go_roundw
            case rel => exact ⟨k + 1, by go_num, by omega, HW5.out, hc5, HB5, HZ5⟩
            case measure => simp [intOf]; omega
          | none =>
            have HE : Hid (joinsTo xs i (k + 1) = ys) := Lib.hid (by rw [HJs.out, HTr.out, hp, List.append_nil])
            have HPl : Hid (∀ q, Calls Try.prog 120 #[.slice (some ⟨b, o, none⟩) xs.length c, .string (xi ++ xk)] (wr.drewN q) fun e w' => e = .returned (.int .i64 (-1)) ∧ w' = wr.drewN q) := Lib.hid fun q => by have := HPl0.out q; rw [hp] at this; exact this
            clear hp HJs HTr HPl0
            go_wp2
            go_quiet ((go_at_call 120; exact Calls.quiet_of_same (HPl.out _)))
            have HW5 : Hid ((wr.drewN nq).ownsRow (w.heap.size + 1) 76 3 (.slice av ys.length capv) (joinsTo xs i (k + 1)).length (trs (joinsTo xs i (k + 1)))) := Lib.hid (by rw [HE.out]; exact HOw.out)
            have HB2 : Hid (Below w.heap.size w (wr.drewN nq)) := Lib.hid (below_drewN' HB.out)
            have hc2 : (wr.drewN nq).cell? ⟨w.heap.size, 0, none⟩ = some (.slice (some ⟨b, o, none⟩) xs.length c) := hc1
            have HZ2 : Hid (w.heap.size + 1 ≤ (wr.drewN nq).heap.size) := Lib.hid hszr
            go_wp2
            go_roundw
            case rel => exact ⟨k + 1, by go_num, by omega, HW5.out, hc2, HB2, HZ2⟩
            case measure => simp [intOf]; omega
        · obtain rfl : k = xs.length := by omega
          have HW5 : Hid (wr.ownsRow (w.heap.size + 1) 76 3 (.slice av (joinsTo xs i xs.length).length capv) (joinsTo xs (i + 1) 0).length (trs (joinsTo xs (i + 1) 0))) := Lib.hid (by rw [← joinsTo_row]; exact hown)
          go_wp2
          go_roundw
          case rel => exact ⟨i + 1, by go_num, by omega, HW5.out, hc1, HB, HZ⟩
          case measure => simp [intOf]; omega
    · obtain rfl : i = xs.length := by omega
      have HO3 := Lib.hid (row_mono hown (Nat.le_succ w.heap.size))
      clear hown
      go_wp2
      go_ret
      exact ⟨_, rfl, HO3.out, HB.out⟩

theorem sJoinedLetters_any (a : Option Addr) (b o c : Nat) (xs : List ByteArray) (w : World) (h : ListIn w a b o xs) :
    Calls Try.prog 44 #[.agg #[.slice a xs.length c]] w (SeqOut (trs (jlL xs)) (jlL xs).length (tableB xs) w) := by
  have hl := h.len
  have F := Lib.hid fun W hb => stable_any a b o c xs W (h.below (w' := W) hb)
  have HS := Lib.hid h
  clear h
  by_cases ht : tableB xs = true
  · have F2 := Lib.hid fun W hb => val_eq (v' := .bool true) (F.out W hb) (by rw [ht])
    have E := Lib.hid fun W hb => sJoined_any a b o c xs W (HS.out.below (w' := W) hb) (marks5 ht) (table_le ht).2
    have HL : Hid (jlL xs = joinsTo xs xs.length 0) := Lib.hid (if_pos ht)
    rw [ht, HL.out]
    clear ht F HL
    go_enter Try.func44, Try.ntmps44
    go_wp2_with fail
    refine (F2.out _ (below_alloc _ _)).mono ?_
    rintro e w1 ⟨rfl, hb⟩
    have hc1 : w1.cell? ⟨w.heap.size, 0, none⟩ = some (.slice a xs.length c) := (hb.cell (p := ⟨w.heap.size, 0, none⟩) (by simp)).trans (cell_new _ _ _)
    have HB := Lib.hid ((below_alloc w (.cells #[.slice a xs.length c] 32)).trans (hb.mono (by simp)))
    clear hb
    go_wp2_with fail
    refine (E.out _ HB.out).mono ?_
    rintro e w2 ⟨v, rfl, hrow, hb⟩
    have HB2 := Lib.hid (HB.out.trans (hb.mono HB.out.size))
    have HRw := Lib.hid (row_mono hrow HB.out.size)
    clear hb hc1 hrow
    go_wp2
    go_ret2
    exact seqOut_row HRw.out (Nat.le_refl _) HB2.out
  · have F2 := Lib.hid fun W hb => val_eq (v' := .bool false) (F.out W hb) (by simp [ht])
    have HL : Hid (jlL xs = []) := Lib.hid (if_neg ht)
    have ht' : tableB xs = false := by simpa using ht
    rw [ht', HL.out]
    clear ht ht' F HL
    go_enter Try.func44, Try.ntmps44
    go_wp2_with fail
    refine (F2.out _ (below_alloc _ _)).mono ?_
    rintro e w1 ⟨rfl, hb⟩
    have HB := Lib.hid ((below_alloc w (.cells #[.slice a xs.length c] 32)).trans (hb.mono (by simp)))
    clear hb
    go_wp2
    go_ret2
    exact seqOut_nothing (HB.out.alloc HB.out.size _) _ _
theorem joinedLetters_both (xs : List ByteArray) (hl : xs.length ≤ 1048576) (ht : ∀ x ∈ xs, x.size ≤ 1048576) : ∃ (l : List (Nat × Nat × Nat)) (R1 : Bool), l.length ≤ 1000 ∧
    Hid (∀ W a b o c, ListIn W a b o xs → Calls Try.prog 44 #[.agg #[.slice a xs.length c]] W (SeqOut (trs l) l.length R1 W)) ∧
    Hid (∀ W a b o c, ListIn W a b o xs → Calls Try.prog 45 #[.agg #[.slice a xs.length c]] W (SeqOut (trs l) l.length R1 W)) :=
  ⟨_, _, Nat.le_trans (jlL_le xs) (by omega), fun W a b o c h => sJoinedLetters_any a b o c xs W h, fun W a b o c h => joinedLetters_any a b o c xs W h⟩
end Go.Proofs.Ytgdiffdpjpkleaa
