/-
  How many lines are on at once: plain facts, and the program's OnAtOnce. Used by the claims on chapter 4.
-/
import Derived.Test.YtijhfmjkiijhiaaDoorLineX
import Derived.Test.YtijhfmjkiijhiaaDoorTableL
import Derived.Test.YtijhfmjkiijhiaaDoorSeqV
import Derived.Test.YtijhfmjkiijhiaaDoorMkTimeW0
import Derived.Deep.OwnRows
import Derived.Laws.OwnMore
import Derived.Laws.Tables
import Derived.RegionTactic
namespace Go.Proofs.YtijhfmjkiijhiaaDoor
open Go.RowKit
set_option linter.unusedVariables false

theorem infoIntL : (Tryd.prog.info? 3).map (fun i => (i.zero, i.size, i.bytes)) = some (some (.int .i64 0), 1, 8) := by kernel_rfl
theorem cell_one_newL (w : World) (x : Value) (t : TypeId) : ∀ (j : Nat) u, [x][j]? = some u → (w.alloc (.cells #[x] t)).cell? ((⟨w.heap.size, 0, none⟩ : Addr).add j) = some u := fun j u h => by
  rw [Addr.add_lit, World.cell?_alloc_new]
  match j, h with
  | 0, h => simpa using h
  | j + 1, h => simp at h
def atX (xs : List ByteArray) (j : Nat) : ByteArray := xs.getD j ⟨#[]⟩
theorem atX_eq {xs : List ByteArray} {j : Nat} (h : j < xs.length) : atX xs j = xs[j] := by unfold atX; rw [List.getD_eq_getElem?_getD, List.getElem?_eq_getElem h]; rfl
def mostTo (xs : List ByteArray) : Nat → Nat
  | 0 => 0
  | k + 1 => if mostTo xs k < (atX xs k).size then (atX xs k).size else mostTo xs k
def cntTo (xs : List ByteArray) (i : Nat) : Nat → Nat
  | 0 => 0
  | j + 1 => cntTo xs i j + (if onAt (bl (atX xs j)) i = true then 1 else 0)
theorem cntTo_le (xs : List ByteArray) (i : Nat) : ∀ j, cntTo xs i j ≤ j
  | 0 => Nat.le_refl _
  | j + 1 => by
    have := cntTo_le xs i j
    unfold cntTo
    split <;> omega
def onsTo (xs : List ByteArray) : Nat → List Nat
  | 0 => []
  | i + 1 => onsTo xs i ++ [cntTo xs i xs.length]
theorem onsTo_len (xs : List ByteArray) : ∀ i, (onsTo xs i).length = i
  | 0 => rfl
  | i + 1 => by simp [onsTo, onsTo_len xs i]
theorem onsTo_at (xs : List ByteArray) : ∀ n i, i < n → (onsTo xs n)[i]? = some (cntTo xs i xs.length)
  | 0, i, h => absurd h (by omega)
  | n + 1, i, h => by
    unfold onsTo
    by_cases e : i = n
    · subst e
      rw [List.getElem?_append_right (by rw [onsTo_len]; omega), onsTo_len]; simp
    · rw [List.getElem?_append_left (by rw [onsTo_len]; omega)]
      exact onsTo_at xs n i (by omega)
def linesB (xs : List ByteArray) : Bool := xs.all fun x => lineL (bl x)
theorem lines_next {xs : List ByteArray} {k : Nat} (h : k < xs.length) (h1 : linesB (xs.take k) = true) (h2 : lineL (bl xs[k]) = true) : linesB (xs.take (k + 1)) = true := by
  unfold linesB at *
  rw [List.take_succ_eq_append_getElem h, List.all_append, h1]
  simp [h2]
theorem lines_not {xs : List ByteArray} {k : Nat} (h : k < xs.length) (h2 : lineL (bl xs[k]) = false) : linesB xs = false := by
  unfold linesB
  rw [List.all_eq_false]
  exact ⟨_, List.getElem_mem h, by rw [h2]; simp⟩
theorem mostTo_le {xs : List ByteArray} (k : Nat) (hk : k ≤ xs.length) (h : linesB (xs.take k) = true) : mostTo xs k ≤ 200 := by
  induction k with
  | zero => exact Nat.zero_le _
  | succ k ih =>
    unfold linesB at h
    rw [List.take_succ_eq_append_getElem (by omega), List.all_append, Bool.and_eq_true] at h
    have h1 := ih (by omega) h.1
    have h2 : lineL (bl xs[k]) = true := by simpa using h.2
    have h3 := line_len h2
    rw [bl_len] at h3
    unfold mostTo
    rw [atX_eq (by omega)]
    split <;> omega
def onceOk (xs : List ByteArray) : Bool := decide (xs.length ≤ 8) && linesB xs
def onceL (xs : List ByteArray) : List Nat := if onceOk xs = true then onsTo xs (mostTo xs xs.length) else []
theorem onceL_len (xs : List ByteArray) : (onceL xs).length ≤ 1000 := by
  unfold onceL
  split
  · rename_i h
    unfold onceOk at h
    rw [Bool.and_eq_true] at h
    rw [onsTo_len]
    have := mostTo_le (xs := xs) xs.length (Nat.le_refl _) (by rw [List.take_length]; exact h.2)
    omega
  · simp
theorem seqI_nil {W W' : World} (a : Option Addr) (g c : Nat) (hb : Below W.heap.size W W') : SeqOut (ints []) ([] : List Nat).length false W (.returned (.tuple #[.slice a 0 c, .bool false])) W' :=
  ⟨a, g, c, rfl, ⟨fun h => by simp [ints] at h, fun j x hx => by simp [ints] at hx⟩, fun h => by simp [ints] at h, fun j hj => by simp [ints] at hj, hb⟩
/-- The program's row of counts, as it stands: places below i are counted, place i up to line j. -/
def cRow (xs : List ByteArray) (i j : Nat) : Nat → Value := fun p => .int .i64 (if p < i then cntTo xs p xs.length else if p = i then cntTo xs i j else 0 : Nat)

set_option maxHeartbeats 8000000 in
set_option maxRecDepth 8000 in
theorem onceX_any (a : Option Addr) (b o c : Nat) (xs : List ByteArray) (w : World) (h : ListIn w a b o xs) :
    Calls Tryd.prog 46 #[.slice a xs.length c] w fun e w' => SeqOut (ints (onceL xs)) (onceL xs).length (onceOk xs) w e w' := by
  by_cases h8 : xs.length ≤ 8
  rotate_left
  · have HR : Hid (onceOk xs = false) := Lib.hid (by simp [onceOk, h8])
    have HR2 : Hid (onceL xs = []) := Lib.hid (by unfold onceL; rw [HR.out]; rfl)
    rw [HR.out, HR2.out]
    have h9 : (8 : Int) < (xs.length : Int) := by omega
    clear h8 h
    go_enter Tryd.func46, Tryd.ntmps46
    go_wp2
    (first | go_ret | go_ret2)
    exact seqI_nil none 0 0 (Below.refl _ _)
  have HS := Lib.hid h
  have HK : Hid (onceOk xs = linesB xs) := Lib.hid (by simp [onceOk, h8])
  have HL : Hid (onceL xs = if onceOk xs = true then onsTo xs (mostTo xs xs.length) else []) := Lib.hid rfl
  generalize onceOk xs = ok at HK HL ⊢
  generalize onceL xs = r at HL ⊢
  clear h
  have h9 : ¬ (8 : Int) < (xs.length : Int) := by omega
  go_enter Tryd.func46, Tryd.ntmps46
  go_wp2
  go_loopw [4, 16] (fun mv v wr => ∃ k m : Nat, v = .int .i64 k ∧ k ≤ xs.length ∧ mv = .int .i64 m ∧ m ≤ 200 ∧ Hid (m = mostTo xs k) ∧ Hid (linesB (xs.take k) = true) ∧ Hid (Below w.heap.size w wr)) (fun _ v _ => xs.length - (intOf v).toNat)
  case atStart => exact ⟨0, 0, rfl, Nat.zero_le _, rfl, Nat.zero_le _, Lib.hid rfl, Lib.hid rfl, Lib.hid (Below.refl _ _)⟩
  case round =>
    obtain ⟨k, m, rfl, hk, rfl, hm, HM, HA, HB⟩ := hrel
    by_cases hlt : k < xs.length
    · obtain rfl := HS.out.src.1 (by omega)
      have hcell := (HS.out.below HB.out).src.2 k _ (List.getElem?_eq_getElem hlt)
      have hxs : (xs[k]).size ≤ 1048576 := HS.out.texts _ (List.getElem_mem hlt)
      have HNx : Hid (mostTo xs (k + 1) = if m < (xs[k]).size then (xs[k]).size else m) := Lib.hid (by rw [HM.out, ← atX_eq hlt]; rfl)
      have HAn := Lib.hid (fun h2 => lines_next hlt HA.out h2)
      have HNo := Lib.hid (fun h2 => lines_not hlt h2)
      have HMl := Lib.hid (fun h2 => mostTo_le (k + 1) hlt (HAn.out h2))
      generalize xs[k] = x at hcell hxs HNx HAn HNo HMl
      have i0 : (0 : Int) ≤ (k : Int) := by omega
      have i1 : (k : Int) < (xs.length : Int) := by omega
      cases hln : lineL (bl x)
      · have F := isLine_is x false hxs hln
        have HE : Hid (ok = false) := Lib.hid (by rw [HK.out, HNo.out hln])
        have HE2 : Hid (r = []) := Lib.hid (by rw [HL.out, HE.out]; rfl)
        clear hln HAn HNo HMl HNx
        go_wp2_with fail
        refine (F.out _).mono ?_
        rintro e w5 ⟨rfl, hb5⟩
        have HB5 : Hid (Below w.heap.size w w5) := Lib.hid (HB.out.trans (hb5.mono HB.out.size))
        clear hb5
        go_wp2
        (first | go_ret | go_ret2)
        rw [HE.out, HE2.out]
        exact seqI_nil none 0 0 HB5.out
      · have F := isLine_is x true hxs hln
        have HA2 := Lib.hid (HAn.out hln)
        have hM2 := HMl.out hln
        have hx2 : x.size ≤ 200 := by have := line_len hln; rwa [bl_len] at this
        clear hln HAn HNo HMl
        by_cases hmx : m < x.size
        · have HV : Hid (x.size = mostTo xs (k + 1)) := Lib.hid (by rw [HNx.out, if_pos hmx])
          have t1 : (m : Int) < (x.size : Int) := by omega
          have t2 : ¬ (x.size : Int) < (m : Int) := by omega
          have t3 : (m : Int) ≤ (x.size : Int) := by omega
          have t4 : max (m : Int) (x.size : Int) = (x.size : Int) := by omega
          clear HNx
          go_wp2_with fail
          refine (F.out _).mono ?_
          rintro e w5 ⟨rfl, hb5⟩
          have HB5 : Hid (Below w.heap.size w w5) := Lib.hid (HB.out.trans (hb5.mono HB.out.size))
          clear hb5
          go_wp2
          go_roundw
          case rel => exact ⟨k + 1, x.size, by go_num, by omega, rfl, hx2, HV, HA2, HB5⟩
          case measure => simp [intOf]; omega
        · have HV : Hid (m = mostTo xs (k + 1)) := Lib.hid (by rw [HNx.out, if_neg hmx])
          have t1 : ¬ (m : Int) < (x.size : Int) := by omega
          have t3 : (x.size : Int) ≤ (m : Int) := by omega
          have t4 : max (m : Int) (x.size : Int) = (m : Int) := by omega
          clear HNx
          go_wp2_with fail
          refine (F.out _).mono ?_
          rintro e w5 ⟨rfl, hb5⟩
          have HB5 : Hid (Below w.heap.size w w5) := Lib.hid (HB.out.trans (hb5.mono HB.out.size))
          clear hb5
          go_wp2
          go_roundw
          case rel => exact ⟨k + 1, m, by go_num, by omega, rfl, hm, HV, HA2, HB5⟩
          case measure => simp [intOf]; omega
    · obtain ⟨W0, rfl⟩ : ∃ W0, W0 = wr := ⟨_, rfl⟩
      have hke : k = xs.length := by omega
      have HE : Hid (ok = true) := Lib.hid (by rw [HK.out]; have := HA.out; rwa [hke, List.take_length] at this)
      have HE2 : Hid (r = onsTo xs m) := Lib.hid (by rw [HL.out, HE.out, HM.out, hke]; rfl)
      have hi1 : ¬ (k : Int) < (xs.length : Int) := by omega
      have hmk := run_make_row' (P := Tryd.prog) 39 3 (.int .i64 0) 8 Tryd.underlying39 infoIntL rfl .i64 .i64 m (by omega) (by omega)
      have HR0 := World.rowIs_made W0 (.int .i64 0) m 3
      have HB0 : Hid (Below w.heap.size w (W0.alloc (.cells (madeCells #[.int .i64 0] m) 3))) := Lib.hid (HB.out.alloc HB.out.size _)
      have HG0 : Hid (w.heap.size ≤ W0.heap.size) := Lib.hid HB.out.size
      have HRow : Hid ((W0.alloc (.cells (madeCells #[.int .i64 0] m) 3)).rowIs W0.heap.size 3 m (cRow xs 0 0)) := Lib.hid (HR0.congr fun p hp => by
        unfold cRow
        rw [if_neg (by omega)]
        split <;> rfl)
      clear HR0 hke
      go_wp2
      go_loopw [32] (fun v wr2 => ∃ i : Nat, v = .int .i64 i ∧ i ≤ m ∧ Hid (wr2.rowIs W0.heap.size 3 m (cRow xs i 0)) ∧ Hid (Below w.heap.size w wr2)) (fun v _ => m - (intOf v).toNat)
      case atStart => exact ⟨0, rfl, Nat.zero_le _, HRow, HB0⟩
      case round =>
        obtain ⟨i, rfl, hi, HV, HB2⟩ := hrel
        by_cases hil : i < m
        · have j0 : (0 : Int) ≤ (i : Int) := by omega
          have j1 : (i : Int) < (m : Int) := by omega
          go_wp2
          go_loopw [37] (fun v3 wr3 => ∃ j : Nat, v3 = .int .i64 j ∧ j ≤ xs.length ∧ Hid (wr3.rowIs W0.heap.size 3 m (cRow xs i j)) ∧ Hid (Below w.heap.size w wr3)) (fun v3 _ => xs.length - (intOf v3).toNat)
          case atStart => exact ⟨0, rfl, Nat.zero_le _, HV, HB2⟩
          case round =>
            obtain ⟨j, rfl, hj, HV3, HB3⟩ := hrel
            by_cases hjl : j < xs.length
            · obtain rfl := HS.out.src.1 (by omega)
              have hcell := (HS.out.below HB3.out).src.2 j _ (List.getElem?_eq_getElem hjl)
              have hxs : (xs[j]).size ≤ 1048576 := HS.out.texts _ (List.getElem_mem hjl)
              have HNx : Hid (cntTo xs i (j + 1) = cntTo xs i j + (if onAt (bl xs[j]) i = true then 1 else 0)) := Lib.hid (by rw [← atX_eq hjl]; rfl)
              generalize xs[j] = x at hcell hxs HNx
              have hcl := cntTo_le xs i j
              have k0 : (0 : Int) ≤ (j : Int) := by omega
              have k1 : (j : Int) < (xs.length : Int) := by omega
              have F := Lib.hid fun w => isOnAt_any x i w hxs (by omega)
              cases hon : onAt (bl x) i
              · rw [hon] at F HNx
                have HRn : Hid (cRow xs i (j + 1) = cRow xs i j) := Lib.hid (by
                  funext p
                  unfold cRow
                  rw [HNx.out]; simp)
                clear hon HNx
                go_wp2_with fail
                refine (F.out _).mono ?_
                rintro e w5 ⟨rfl, hww⟩
                obtain rfl := hww.symm
                go_wp2
                go_roundw
                case rel => exact ⟨j + 1, by go_num, by omega, Lib.hid (by rw [HRn.out]; exact HV3.out), HB3⟩
                case measure => simp [intOf]; omega
              · rw [hon] at F HNx
                have d1 := HV3.out.cell (i := i) hil
                have d2 := HV3.out.frozen i
                have e1 : cRow xs i j i = .int .i64 (cntTo xs i j : Nat) := by unfold cRow; rw [if_neg (by omega), if_pos rfl]
                rw [e1] at d1
                clear e1
                have HV4 : Hid (∀ u : Int, u = ((cntTo xs i j + 1 : Nat) : Int) → (wr.setCell ⟨W0.heap.size, i, none⟩ (.int .i64 u)).rowIs W0.heap.size 3 m (cRow xs i (j + 1))) := Lib.hid (fun u hu => (HV3.out.set i (.int .i64 u)).congr fun p hp => by
                  unfold cRow
                  by_cases e : p = i
                  · rw [if_pos e, if_neg (by omega), if_pos e, HNx.out, hu]; simp
                  · rw [if_neg e, if_neg e]
                    by_cases e2 : p < i
                    · rw [if_pos e2, if_pos e2]
                    · rw [if_neg e2, if_neg e2, if_neg e])
                generalize cntTo xs i j = y at d1 hcl HNx HV4
                clear hon HNx
                go_wp2_with fail
                refine (F.out _).mono ?_
                rintro e w5 ⟨rfl, hww⟩
                obtain rfl := hww.symm
                go_wp2
                go_roundw
                case rel => exact ⟨j + 1, by go_num, by omega, Lib.hid (HV4.out _ (by omega)), Lib.hid (HB3.out.setCell (p := ⟨W0.heap.size, i, none⟩) HG0.out _)⟩
                case measure => simp [intOf]; omega
            · obtain rfl : j = xs.length := by omega
              have HRn : Hid (cRow xs (i + 1) 0 = cRow xs i xs.length) := Lib.hid (by
                funext p
                unfold cRow
                by_cases e : p < i
                · rw [if_pos e, if_pos (by omega)]
                · by_cases e2 : p = i
                  · rw [if_pos (by omega), if_neg e, if_pos e2, e2]
                  · rw [if_neg (by omega), if_neg e, if_neg e2]
                    split <;> rfl)
              go_wp2
              go_roundw
              case rel => exact ⟨i + 1, by go_num, by omega, Lib.hid (by rw [HRn.out]; exact HV3.out), HB3⟩
              case measure => simp [intOf]; omega
        · have him : i = m := by omega
          go_wp2
          (first | go_ret | go_ret2)
          rw [HE.out, HE2.out]
          have hol := onsTo_len xs m
          rw [hol]
          refine ⟨_, W0.heap.size, m, rfl, ⟨fun _ => rfl, fun j v hv => ?_⟩, fun _ => HG0.out, fun j hj => HV.out.frozen j, HB2.out⟩
          rw [ints] at hv
          have hj : j < m := by have := (List.getElem?_eq_some_iff.1 hv).1; simpa [onsTo_len] using this
          rw [HV.out.cell hj]
          unfold cRow
          rw [if_pos (by omega)]
          rw [List.getElem?_map, onsTo_at xs m j hj] at hv
          exact hv
end Go.Proofs.YtijhfmjkiijhiaaDoor
