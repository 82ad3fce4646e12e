/-
  JoinedLetters of the program: triples of letters of which two make the third. Used by the claims on chapter 6.
-/
import Derived.Test.YtgdiffdpjpkleaaCpS
import Derived.Test.YtgdiffdpjpkleaaTriX
namespace Go.Proofs.Ytgdiffdpjpkleaa
open Go.RowKit Go.Maps Go.WideMaps
set_option linter.unusedVariables false

/-! ### Plain -/
def tripJ (xs : List ByteArray) (i j : Nat) : List (Nat × Nat × Nat) := match placeB xs (atB xs i ++ atB xs j) with
  | some t => [(i, j, t)]
  | none => []
def joinsTo (xs : List ByteArray) (i k : Nat) : List (Nat × Nat × Nat) := ((List.range i).flatMap fun a => (List.range xs.length).flatMap (tripJ xs a)) ++ (List.range k).flatMap (tripJ xs i)
theorem joinsTo_succ (xs : List ByteArray) (i k : Nat) : joinsTo xs i (k + 1) = joinsTo xs i k ++ tripJ xs i k := by
  unfold joinsTo
  rw [List.range_succ, List.flatMap_append, ← List.append_assoc]; simp
theorem joinsTo_row (xs : List ByteArray) (i : Nat) : joinsTo xs i xs.length = joinsTo xs (i + 1) 0 := by
  unfold joinsTo
  rw [List.range_succ, List.flatMap_append]; simp
theorem tripJ_le (xs : List ByteArray) (i j : Nat) : (tripJ xs i j).length ≤ 1 := by unfold tripJ; split <;> simp
theorem rowJ_le (xs : List ByteArray) (i : Nat) : ∀ k, ((List.range k).flatMap (tripJ xs i)).length ≤ k
  | 0 => by simp
  | k + 1 => by
    rw [List.range_succ, List.flatMap_append, List.length_append]
    have := rowJ_le xs i k
    have := tripJ_le xs i k
    simp only [List.flatMap_cons, List.flatMap_nil, List.append_nil]
    omega
theorem joinsTo_le (xs : List ByteArray) (i k : Nat) : (joinsTo xs i k).length ≤ i * xs.length + k := by
  have h1 : ∀ i, ((List.range i).flatMap fun a => (List.range xs.length).flatMap (tripJ xs a)).length ≤ i * xs.length := by
    intro i
    induction i with
    | zero => simp
    | succ i ih =>
      rw [List.range_succ, List.flatMap_append, List.length_append, Nat.add_mul]
      have := rowJ_le xs i xs.length
      simp only [List.flatMap_cons, List.flatMap_nil, List.append_nil]
      omega
  unfold joinsTo
  rw [List.length_append]
  have := h1 i
  have := rowJ_le xs i k
  omega
def jlL (xs : List ByteArray) : List (Nat × Nat × Nat) := if tableB xs = true then joinsTo xs xs.length 0 else []
theorem jlL_le (xs : List ByteArray) : (jlL xs).length ≤ 100 := by
  unfold jlL
  by_cases h : tableB xs = true
  · rw [if_pos h]
    have h1 := joinsTo_le xs xs.length 0
    have h2 := (table_le h).2
    have h3 : xs.length * xs.length ≤ 10 * 10 := Nat.mul_le_mul h2 h2
    omega
  · rw [if_neg h]; simp
theorem cat_size (x y : ByteArray) : (x ++ y).size = x.size + y.size := ByteArray.size_append

theorem wpList_lookup_int_ok {H : Type} {P : Program} (w : World) {ops : Array Oper} {rest : List Oper} {o : Oper} {a : Act} {Q : Exit → Act → World → Prop} (hg : o.guard = none) (m x : Operand) (t : TypeId) (hop : o.op = Op.lookup t m x true)
    (k e : TypeId) (q : IntKind) (K : Keyed P k) (ht : P.underlying t = some (.map k e)) (he : P.underlying e = some (.int q)) (hz : (zeroValue e).run P w = .ok (.int q 0) w) (b n : Nat) (D : DataW H)
    (hm : a.eval m = .map (some b)) (hown : w.ownsMap P k (plainElem P e) b n D) (key : Value) (kl : Lit) (hx : a.eval x = key) (hkey : keyOf P k key = some kl) (c0 : Int) (hat : D.atKey kl (.lit (.int q 0)) = .lit (.int q c0)) (qb : Bool) (hq : Maps.has D kl = qb)
    (hK : wpList P ops Q rest (a.put o.dst (.tuple #[.int q c0, .bool qb])) w) :
    wpList P ops Q (o :: rest) a w :=
  wpList_lookup_own_ok_int w hg m x t hop k e q K ht he hz b n D hm hown key kl hx hkey (fun c hc _ => by
    rw [hat] at hc
    injection hc with hc
    injection hc with _ hc
    subst hc
    rw [hq]; exact hK)

set_option maxHeartbeats 8000000 in
set_option maxRecDepth 8000 in
theorem joinedLetters_any (a : Option Addr) (b o c : Nat) (xs : List ByteArray) (w : World) (h : ListIn w a b o xs) :
    Calls Try.prog 45 #[.agg #[.slice a xs.length c]] w (SeqOut (trs (jlL xs)) (jlL xs).length (tableB xs) w) := by
  have hl := h.len
  have F := Lib.hid fun W hb => isTable_any a b o c xs W (h.below (w' := W) hb)
  have HS := Lib.hid h
  clear h
  by_cases ht : tableB xs = true
  · have F2 := Lib.hid fun W hb => val_eq (v' := .bool true) (F.out W hb) (by rw [ht])
    have FL := Lib.hid fun W hb => letters_any a b o c xs W (HS.out.below (w' := W) hb)
    have H5 := Lib.hid (marks5 ht)
    have hn10 := (table_le ht).2
    have HNd := Lib.hid (table_nodup ht)
    obtain ⟨i0, hi', hz0, hz1, hz2⟩ := info_parts infoTri
    have HL : Hid (jlL xs = joinsTo xs xs.length 0) := Lib.hid (if_pos ht)
    rw [ht, HL.out]
    clear ht F HL
    go_enter Try.func45, Try.ntmps45
    go_wp2_with fail
    refine (F2.out _ (below_alloc _ _)).mono ?_
    rintro e w1 ⟨rfl, hb⟩
    have hc1 : w1.cell? ⟨w.heap.size, 0, none⟩ = some (.slice a xs.length c) := (hb.cell (p := ⟨w.heap.size, 0, none⟩) (by simp)).trans (cell_new _ _ _)
    have HB1 := Lib.hid ((below_alloc w (.cells #[.slice a xs.length c] 32)).trans (hb.mono (by simp)))
    clear hb
    go_wp2_with fail
    refine (FL.out w1 HB1.out).mono ?_
    rintro e w3 ⟨B, rfl, hBg, hmap, hb⟩
    have HC3 := Lib.hid (cell_below hb hc1)
    have HB3 := Lib.hid (HB1.out.trans (hb.mono HB1.out.size))
    have HM3 := Lib.hid hmap
    have HR3 : Hid ((w3.alloc (Obj.cells #[] 76)).ownsRow w3.heap.size 76 3 (.slice (some ⟨w3.heap.size, 0, none⟩) 0 0) 0 (trs [])) := Lib.hid (World.ownsRow_made (base := w3.heap.size) (e := 76) (size := 3) w3 #[] 0 (Nat.le_refl _) (by unfold maxLen; omega) rfl)
    have HA3 := Lib.hid (below_alloc w3 (Obj.cells #[] 76))
    have hc3 := keep_cell w3 (Obj.cells #[] 76) HC3.out
    clear hb hc1 hmap hBg
    go_wp2
    go_loopw [5, 21] (fun pv v wr => ∃ i : Nat, v = .int .i64 i ∧ i ≤ xs.length ∧ wr.ownsRow w3.heap.size 76 3 pv (joinsTo xs i 0).length (trs (joinsTo xs i 0)) ∧ wr.cell? ⟨w.heap.size, 0, none⟩ = some (.slice a xs.length c) ∧ Hid (Below w3.heap.size w3 wr)) (fun _ v _ => xs.length - (intOf v).toNat)
    case atStart => exact ⟨0, rfl, Nat.zero_le _, HR3.out, hc3, HA3⟩
    case round =>
      clear hc3
      obtain ⟨i, rfl, hi, hown, hc4, HB⟩ := hrel
      by_cases hlt : i < xs.length
      · obtain rfl := HS.out.src.1 (by omega)
        have HBw := Lib.hid (HB3.out.trans (HB.out.mono HB3.out.size))
        have hcI := (HS.out.below HBw.out).src.2 i _ (List.getElem?_eq_getElem hlt)
        have HXi := Lib.hid (atB_eq (List.getElem?_eq_getElem hlt))
        have hx5 := H5.out _ (List.getElem_mem hlt)
        generalize xs[i] = xi at hcI HXi hx5
        go_wp2
        go_loopw [5, 29] (fun pv v wr2 => ∃ k : Nat, v = .int .i64 k ∧ k ≤ xs.length ∧ wr2.ownsRow w3.heap.size 76 3 pv (joinsTo xs i k).length (trs (joinsTo xs i k)) ∧ wr2.cell? ⟨w.heap.size, 0, none⟩ = some (.slice (some ⟨b, o, none⟩) xs.length c) ∧ Hid (Below w3.heap.size w3 wr2)) (fun _ v _ => xs.length - (intOf v).toNat)
        case atStart => exact ⟨0, rfl, Nat.zero_le _, hown, hc4, HB⟩
        case round =>
          clear hcI hown hc4 HB HBw
          obtain ⟨k, rfl, hk, hown, hc4, HB⟩ := hrel
          obtain ⟨av, capv, rfl⟩ := row_form hown
          by_cases hkl : k < xs.length
          · have HBw := Lib.hid (HB3.out.trans (HB.out.mono HB3.out.size))
            have hcK := (HS.out.below HBw.out).src.2 k _ (List.getElem?_eq_getElem hkl)
            have HXk := Lib.hid (atB_eq (List.getElem?_eq_getElem hkl))
            have hy5 := H5.out _ (List.getElem_mem hkl)
            generalize xs[k] = xk at hcK HXk hy5
            have HJs := Lib.hid (joinsTo_succ xs i k)
            have hle := joinsTo_le xs i k
            have hle2 : i * xs.length ≤ 10 * 10 := Nat.mul_le_mul (by omega) (by omega)
            have hpl : (joinsTo xs i k).length ≤ 1000 := by omega
            have HTr : Hid (tripJ xs i k = match placeB xs (xi ++ xk) with | some t => [(i, k, t)] | none => []) := Lib.hid (by unfold tripJ; rw [HXi.out, HXk.out])
            have HMp : Hid (wr.ownsMap Try.prog 9 (plainElem Try.prog 3) B xs.length (letD xs xs.length)) := Lib.hid (HM3.out.kept (row := none) ⟨HB.out.os, HB.out.tape, HB.out.output, HB.out.size, fun q hq _ => HB.out.block q hq⟩ (by simp))
            have HKy : Hid (keyOf Try.prog 9 (.string (xi ++ xk)) = some (keyB (xi ++ xk))) := Lib.hid (keyOf_string_mk Try.underlying9 (by rw [cat_size]; unfold maxLen; omega))
            have HOw := Lib.hid hown
            generalize joinsTo xs i k = ys at HOw HJs hpl
            clear hown hle hle2
            have hsz3 : w3.heap.size ≤ wr.heap.size := HB.out.size
            have HLt : Hid (∀ q, (Value.slice av ys.length capv).ownBlock = some q → w3.heap.size ≤ q) := Lib.hid fun q e => (ownBlock_ge HOw.out e).1
            cases hp : placeB xs (xi ++ xk) with
            | some t =>
              have hpt := placeB_some.1 hp
              have htl : t < xs.length := (List.getElem?_eq_some_iff.1 hpt.1).1
              have HE : Hid (joinsTo xs i (k + 1) = ys ++ [(i, k, t)]) := Lib.hid (by rw [HJs.out, HTr.out, hp])
              have HAt := Lib.hid (letD_at xs HNd.out (xi ++ xk) t hpt.1 (.lit (.int .i64 0)) xs.length htl (Nat.le_refl _))
              have HHas : Hid (Maps.has (letD xs xs.length) (keyB (xi ++ xk)) = true) := Lib.hid ((letD_has xs (xi ++ xk) xs.length).2 (by rw [List.take_length]; exact List.mem_of_getElem? hpt.1))
              clear hp hpt HJs HTr
              go_wp2_with (first
                | (at_lookup; refine wpList_lookup_int_ok _ rfl _ _ 105 rfl 9 3 .i64 law9 Try.underlying105 Try.underlying3 (zeroI _) B xs.length (letD xs xs.length) rfl HMp.out _ _ rfl HKy.out (t : Int) HAt.out true HHas.out ?_)
                | (at_builtin; refine wpList_append_lies _ rfl _ _ 53 rfl w3.heap.size 76 i0 (.agg #[.int .i64 0, .int .i64 0, .int .i64 0]) 3 24 Try.underlying53 hi' hz0 hz1 hz2 rfl (by decide) (.slice av ys.length capv) ys.length (trs ys) rfl (HOw.out.alloc _) ⟨wr.heap.size, 0, none⟩ 1 1 [.int .i64 (i : Int), .int .i64 (k : Int), .int .i64 (t : Int)] rfl rfl (cell_three_new _ _ _ _ _) (by simp [Value.oneCell']) (by omega) (by unfold maxLen; omega) (by omega) (by simp; omega) (wr.heap.size + 1) (by simp) ?_; intro gg capg w5 hown5 hgrow5 hat5 hglt5)
                | go_in)
              have HW5 : Hid (w5.ownsRow w3.heap.size 76 3 (.slice (some ⟨gg, 0, none⟩) (ys.length + 1) capg) (joinsTo xs i (k + 1)).length (trs (joinsTo xs i (k + 1)))) := Lib.hid (by rw [HE.out, trs_snoc]; simpa using hown5)
              have HB5 : Hid (Below w3.heap.size w3 w5) := Lib.hid ((HB.out.alloc HB.out.size _).grown hgrow5 (by have := HB.out.size; simp; omega) (fun q e => HLt.out q e))
              have hc5 : w5.cell? ⟨w.heap.size, 0, none⟩ = some (.slice (some ⟨b, o, none⟩) xs.length c) := (HB5.out.cell (World.block_lt_of_cell? _ _ HC3.out)).trans HC3.out
              clear hown5 hgrow5 hat5 hglt5 hc4
              go_wp2
              go_roundw
              case rel => exact ⟨k + 1, by go_num, by omega, HW5.out, hc5, HB5⟩
              case measure => simp [intOf]; omega
            | none =>
              have hpn := placeB_none.1 hp
              have HE : Hid (joinsTo xs i (k + 1) = ys) := Lib.hid (by rw [HJs.out, HTr.out, hp, List.append_nil])
              have hh : Maps.has (letD xs xs.length) (keyB (xi ++ xk)) = false := by
                rw [Bool.eq_false_iff]
                intro e
                have := (letD_has xs (xi ++ xk) xs.length).1 e
                rw [List.take_length] at this
                exact hpn this
              have HAt := Lib.hid (atKey_of_not_has hh (.lit (.int .i64 0)))
              have HHas := Lib.hid hh
              have HW5 : Hid (wr.ownsRow w3.heap.size 76 3 (.slice av ys.length capv) (joinsTo xs i (k + 1)).length (trs (joinsTo xs i (k + 1)))) := Lib.hid (by rw [HE.out]; exact HOw.out)
              clear hp hpn HJs HTr hh
              go_wp2_with (first
                | (at_lookup; refine wpList_lookup_int_ok _ rfl _ _ 105 rfl 9 3 .i64 law9 Try.underlying105 Try.underlying3 (zeroI _) B xs.length (letD xs xs.length) rfl HMp.out _ _ rfl HKy.out 0 HAt.out false HHas.out ?_)
                | go_in)
              go_roundw
              case rel => exact ⟨k + 1, by go_num, by omega, HW5.out, hc4, HB⟩
              case measure => simp [intOf]; omega
          · obtain rfl : k = xs.length := by omega
            have HW5 : Hid (wr.ownsRow w3.heap.size 76 3 (.slice av (joinsTo xs i xs.length).length capv) (joinsTo xs (i + 1) 0).length (trs (joinsTo xs (i + 1) 0))) := Lib.hid (by rw [← joinsTo_row]; exact hown)
            go_wp2
            go_roundw
            case rel => exact ⟨i + 1, by go_num, by omega, HW5.out, hc4, HB⟩
            case measure => simp [intOf]; omega
      · obtain rfl : i = xs.length := by omega
        have HO3 := Lib.hid (row_mono hown HB3.out.size)
        have HBw := Lib.hid (HB3.out.trans (HB.out.mono HB3.out.size))
        clear hown
        go_wp2
        go_ret2
        exact seqOut_row HO3.out (Nat.le_refl _) HBw.out
  · have F2 := Lib.hid fun W hb => val_eq (v' := .bool false) (F.out W hb) (by simp [ht])
    have HL : Hid (jlL xs = []) := Lib.hid (if_neg ht)
    have ht' : tableB xs = false := by simpa using ht
    rw [ht', HL.out]
    clear ht ht' F HL
    go_enter Try.func45, Try.ntmps45
    go_wp2_with fail
    refine (F2.out _ (below_alloc _ _)).mono ?_
    rintro e w1 ⟨rfl, hb⟩
    have HB := Lib.hid ((below_alloc w (.cells #[.slice a xs.length c] 32)).trans (hb.mono (by simp)))
    clear hb
    go_wp2
    go_ret2
    exact seqOut_nothing HB.out _ _
end Go.Proofs.Ytgdiffdpjpkleaa
