/-
  beginningPairsOf of the program: the pairs of letters of which one begins like the other. Used by the claims on chapter 3.
-/
import Derived.Test.YtekgmdigchobbaaWayS
import Derived.Test.YtekgmdigchobbaaSeqW
namespace Go.Proofs.Ytekgmdigchobbaa
open Go.RowKit
set_option linter.unusedVariables false

def at0 (xs : List ByteArray) (i : Nat) : ByteArray := xs.getD i ⟨#[]⟩
def beginsB (x y : ByteArray) : Bool := (bl y).isPrefixOf (bl x)
def keepQ (xs : List ByteArray) (i j : Nat) : Bool := decide (i ≠ j) && beginsB (at0 xs j) (at0 xs i)
def rowP (xs : List ByteArray) (i k : Nat) : List (Nat × Nat) := ((List.range k).filter (keepQ xs i)).map fun j => (i, j)
def pairsTo (xs : List ByteArray) (i k : Nat) : List (Nat × Nat) := ((List.range i).flatMap fun a => rowP xs a xs.length) ++ rowP xs i k
def prs (l : List (Nat × Nat)) : List Value := l.flatMap fun p => [.int .i64 (p.1 : Int), .int .i64 (p.2 : Int)]
theorem prs_snoc (l : List (Nat × Nat)) (i j : Nat) : prs (l ++ [(i, j)]) = prs l ++ [.int .i64 (i : Int), .int .i64 (j : Int)] := by simp [prs]
theorem prs_len (l : List (Nat × Nat)) : (prs l).length = 2 * l.length := by
  induction l with
  | nil => rfl
  | cons p r ih => simp only [prs, List.flatMap_cons, List.length_append, List.length_cons, List.length_nil] at ih ⊢; omega
theorem pairsTo_succ (xs : List ByteArray) (i k : Nat) : pairsTo xs i (k + 1) = pairsTo xs i k ++ (if keepQ xs i k = true then [(i, k)] else []) := by
  unfold pairsTo rowP
  rw [List.range_succ, List.filter_append, List.map_append, List.append_assoc]
  congr 2
  by_cases h : keepQ xs i k = true <;> simp [h]
theorem pairsTo_row (xs : List ByteArray) (i : Nat) : pairsTo xs i xs.length = pairsTo xs (i + 1) 0 := by
  unfold pairsTo
  rw [List.range_succ, List.flatMap_append]
  simp [rowP]
theorem pairsTo_zero (xs : List ByteArray) : pairsTo xs 0 0 = [] := rfl
theorem rowP_le (xs : List ByteArray) (i k : Nat) : (rowP xs i k).length ≤ k := by
  unfold rowP
  rw [List.length_map]
  have := List.length_filter_le (keepQ xs i) (List.range k)
  rwa [List.length_range] at this
theorem pairsTo_le (xs : List ByteArray) (k : Nat) : ∀ i, (pairsTo xs i k).length ≤ i * xs.length + k := fun i => by
  have h1 : ∀ i, ((List.range i).flatMap fun a => rowP xs a xs.length).length ≤ i * xs.length := by
    intro i
    induction i with
    | zero => simp
    | succ i ih =>
      rw [List.range_succ, List.flatMap_append, List.length_append, Nat.add_mul]
      have := rowP_le xs i xs.length
      simp only [List.flatMap_cons, List.flatMap_nil, List.append_nil]
      omega
  have h2 := rowP_le xs i k
  unfold pairsTo
  rw [List.length_append]
  have := h1 i
  omega
theorem at0_eq {xs : List ByteArray} {i : Nat} {x : ByteArray} (h : xs[i]? = some x) : at0 xs i = x := by
  unfold at0
  rw [List.getD_eq_getElem?_getD, h]; rfl
theorem infoPair : (Try.prog.info? 108).map (fun i => (i.zero, i.size, i.bytes)) = some (some (.agg #[.int .i64 0, .int .i64 0]), 2, 16) := by kernel_rfl
theorem cell_two_new (w : World) (x y : Value) (t : TypeId) : ∀ (j : Nat) u, [x, y][j]? = some u → (w.alloc (.cells #[x, y] t)).cell? ((⟨w.heap.size, 0, none⟩ : Addr).add j) = some u := fun j u h => by
  rw [Addr.add_lit, World.cell?_alloc_new]
  match j, h with
  | 0, h => simpa using h
  | 1, h => simpa using h
  | j + 2, h => simp at h

set_option maxHeartbeats 8000000 in
set_option maxRecDepth 8000 in
theorem pairs_any (a : Option Addr) (b o c : Nat) (xs : List ByteArray) (w : World) (h : ListIn w a b o xs) (hn : xs.length ≤ 10) :
    Calls Try.prog 123 #[.agg #[.slice a xs.length c]] w fun e w' => (∃ a' g' c', e = .returned (.slice a' (pairsTo xs xs.length 0).length c') ∧ SrcV w' a' g' (prs (pairsTo xs xs.length 0)) ∧ (0 < (prs (pairsTo xs xs.length 0)).length → w.heap.size ≤ g') ∧ (∀ j, j < (prs (pairsTo xs xs.length 0)).length → w'.frozen? ⟨g', j, none⟩ = false)) ∧ Below w.heap.size w w' := by
  have HS := Lib.hid h
  obtain ⟨i0, hi', hz0, hz1, hz2⟩ := info_parts infoPair
  clear h
  have e0 : (w.alloc (.cells #[.slice a xs.length c] 26)).heap.size = w.heap.size + 1 := by simp
  have M0 : Hid (((w.alloc (.cells #[.slice a xs.length c] 26)).alloc (Obj.cells #[] 108)).ownsRow (w.heap.size + 1) 108 2 (.slice (some ⟨w.heap.size + 1, 0, none⟩) 0 0) 0 (prs [])) := Lib.hid (by
    have := World.ownsRow_made (base := w.heap.size + 1) (e := 108) (size := 2) (w.alloc (.cells #[.slice a xs.length c] 26)) #[] 0 (by simp) (by unfold maxLen; omega) rfl
    rw [e0] at this
    exact this)
  have hB1 := Lib.hid ((below_alloc w (.cells #[.slice a xs.length c] 26)).alloc (by simp) (Obj.cells #[] 108))
  have hc0 := keep_cell (w.alloc (.cells #[.slice a xs.length c] 26)) (Obj.cells #[] 108) (cell_new w (.slice a xs.length c) 26)
  have hsz0 : Hid (w.heap.size + 1 ≤ ((w.alloc (.cells #[.slice a xs.length c] 26)).alloc (Obj.cells #[] 108)).heap.size) := Lib.hid (by simp)
  go_enter Try.func123, Try.ntmps123
  go_wp2
  go_loopw [3, 12] (fun pv v wr => ∃ i : Nat, v = .int .i64 i ∧ i ≤ xs.length ∧ wr.ownsRow (w.heap.size + 1) 108 2 pv (pairsTo xs i 0).length (prs (pairsTo xs i 0)) ∧ wr.cell? ⟨w.heap.size, 0, none⟩ = some (.slice a xs.length c) ∧ Hid (Below w.heap.size w wr) ∧ Hid (w.heap.size + 1 ≤ wr.heap.size)) (fun _ v _ => xs.length - (intOf v).toNat)
  case atStart => exact ⟨0, rfl, Nat.zero_le _, M0.out, hc0, hB1, hsz0⟩
  case round =>
    obtain ⟨i, rfl, hi, hown, hc1, HB, HSz⟩ := hrel
    by_cases hlt : i < xs.length
    · obtain rfl := HS.out.src.1 (by omega)
      have hcI := (HS.out.below HB.out).src.2 i _ (List.getElem?_eq_getElem hlt)
      have HXi := Lib.hid (at0_eq (List.getElem?_eq_getElem hlt))
      generalize xs[i] = xi at hcI HXi
      have i1 : (0 : Int) ≤ (i : Int) := by omega
      have i2 : (i : Int) < (xs.length : Int) := by omega
      go_wp2
      go_loopw [3, 20] (fun pv v wr2 => ∃ k : Nat, v = .int .i64 k ∧ k ≤ xs.length ∧ wr2.ownsRow (w.heap.size + 1) 108 2 pv (pairsTo xs i k).length (prs (pairsTo xs i k)) ∧ wr2.cell? ⟨w.heap.size, 0, none⟩ = some (.slice (some ⟨b, o, none⟩) xs.length c) ∧ Hid (Below w.heap.size w wr2) ∧ Hid (w.heap.size + 1 ≤ wr2.heap.size)) (fun _ v _ => xs.length - (intOf v).toNat)
      case atStart => exact ⟨0, rfl, Nat.zero_le _, hown, hc1, HB, HSz⟩
      case round =>
        obtain ⟨k, rfl, hk, hown2, hc2, HB2, HSz2⟩ := hrel
        obtain ⟨av, capv, rfl⟩ := row_form hown2
        by_cases hkl : k < xs.length
        · have hcK := (HS.out.below HB2.out).src.2 k _ (List.getElem?_eq_getElem hkl)
          have HXk := Lib.hid (at0_eq (List.getElem?_eq_getElem hkl))
          generalize xs[k] = xk at hcK HXk
          have HSt := Lib.hid fun w => Try.strings_HasPrefix xk xi w
          have HEx : Hid (Lib.hasPrefix xk.data.toList xi.data.toList = beginsB (at0 xs k) (at0 xs i)) := Lib.hid (by rw [HXk.out, HXi.out]; rfl)
          have HPs := Lib.hid (pairsTo_succ xs i k)
          have hle := pairsTo_le xs k i
          have hle2 : i * xs.length ≤ 10 * 10 := Nat.mul_le_mul (by omega) (by omega)
          have k1 : (0 : Int) ≤ (k : Int) := by omega
          have k2 : (k : Int) < (xs.length : Int) := by omega
          generalize hpl : pairsTo xs i k = pl at hown2 hle HPs
          have HLt : Hid (∀ q, (Value.slice av pl.length capv).ownBlock = some q → w.heap.size + 1 ≤ q ∧ q < wr.heap.size) := Lib.hid hown2.lt
          clear hpl hown hcI
          by_cases hik : i = k
          · have HP2 : Hid (pairsTo xs i (k + 1) = pl) := Lib.hid (by rw [HPs.out, if_neg (by simp [keepQ, hik]), List.append_nil])
            have j1 : ((i : Int) == (k : Int)) = true := by simp; omega
            have j2 : ((i : Int) != (k : Int)) = false := by rw [bne, j1]; rfl
            clear hik
            go_wp2
            go_roundw
            case rel => exact ⟨k + 1, by go_num, by omega, by rw [HP2.out]; exact hown2, hc2, HB2, HSz2⟩
            case measure => simp [intOf]; omega
          · have j1 : ((i : Int) == (k : Int)) = false := beq_false_of_ne (by omega)
            have j2 : ((i : Int) != (k : Int)) = true := by rw [bne, j1]; rfl
            by_cases hbg : beginsB (at0 xs k) (at0 xs i) = true
            · have HP2 : Hid (pairsTo xs i (k + 1) = pl ++ [(i, k)]) := Lib.hid (by rw [HPs.out, if_pos (by simp [keepQ, hik, hbg])])
              have HSt2 := Lib.hid fun w => val_eqS (v' := .bool true) (HSt.out w) (by rw [HEx.out, hbg])
              have hsz2 := HSz2.out
              clear hik hbg
              go_wp2_with fail
              refine (HSt2.out _).mono ?_
              rintro e w5 ⟨rfl, hww⟩
              obtain rfl := hww.symm
              go_wp2_with (at_builtin; refine wpList_append_own _ rfl _ _ 65 rfl (w.heap.size + 1) 108 i0 (.agg #[.int .i64 0, .int .i64 0]) 2 16 Try.underlying65 hi' hz0 hz1 hz2 rfl (by decide) (.slice av pl.length capv) pl.length (prs pl) rfl (hown2.alloc _) ⟨wr.heap.size, 0, none⟩ 1 1 [.int .i64 (i : Int), .int .i64 (k : Int)] rfl rfl (cell_two_new _ _ _ _) (by simp [Value.oneCell']) (by unfold maxLen; omega) (by omega) (by simp; omega) ?_; intro v' w7 hown' hgrow _)
              have HW7 : Hid (w7.ownsRow (w.heap.size + 1) 108 2 v' (pl ++ [(i, k)]).length (prs (pl ++ [(i, k)]))) := Lib.hid (by rw [prs_snoc]; simpa using hown')
              have hc7 := Lib.hid (cell_grown hown2 hc2 hgrow (fun e => by have h9 := (HLt.out _ e).1; exact absurd h9 (by simp)))
              have HB7 : Hid (Below w.heap.size w w7) := Lib.hid ((HB2.out.alloc HB2.out.size _).grown hgrow (by have := HB2.out.size; simp; omega) (fun q e => by have := (HLt.out q e).1; omega))
              have HS7 : Hid (w.heap.size + 1 ≤ w7.heap.size) := Lib.hid (Nat.le_trans hsz2 (Nat.le_trans (by simp) hgrow.size))
              clear hown' hgrow
              all_goals (
                go_roundw
                case rel => exact ⟨k + 1, by go_num, by omega, by rw [HP2.out]; exact HW7.out, hc7.out, HB7, HS7⟩
                case measure => simp [intOf]; omega)
            · have HP2 : Hid (pairsTo xs i (k + 1) = pl) := Lib.hid (by rw [HPs.out, if_neg (by simp [keepQ, hbg]), List.append_nil])
              have HSt2 := Lib.hid fun w => val_eqS (v' := .bool false) (HSt.out w) (by rw [HEx.out]; simp [hbg])
              clear hik hbg
              go_wp2_with fail
              refine (HSt2.out _).mono ?_
              rintro e w5 ⟨rfl, hww⟩
              obtain rfl := hww.symm
              go_wp2
              go_roundw
              case rel => exact ⟨k + 1, by go_num, by omega, by rw [HP2.out]; exact hown2, hc2, HB2, HSz2⟩
              case measure => simp [intOf]; omega
        · obtain rfl : k = xs.length := by omega
          go_wp2
          go_roundw
          case rel => exact ⟨i + 1, by go_num, by omega, by rw [← pairsTo_row]; exact hown2, hc2, HB2, HSz2⟩
          case measure => simp [intOf]; omega
    · obtain rfl : i = xs.length := by omega
      go_wp2
      go_ret
      obtain ⟨a', g', c', hv, hs', hg', hf'⟩ := seq_of_row hown
      exact ⟨⟨a', g', c', by rw [← hv]; rfl, hs', fun h => Nat.le_of_succ_le (hg' h), hf'⟩, HB.out⟩
end Go.Proofs.Ytekgmdigchobbaa
