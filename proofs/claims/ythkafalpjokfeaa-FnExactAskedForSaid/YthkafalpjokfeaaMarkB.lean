/-
  MarksOf and LetterOf, the program's and the model's: both answer alike. Used by the claims on chapter 2.
-/
import Derived.Test.YthkafalpjokfeaaIsTableB
namespace Go.Proofs.Ythkafalpjokfeaa
open Go.RowKit Go.Maps Go.WideMaps
set_option linter.unusedVariables false

/-! ### MarksOf -/
def marksR (xs : List ByteArray) (a : Int) : ByteArray × Bool := if tableB xs = true ∧ 0 ≤ a ∧ a < xs.length then (xs.getD a.toNat ⟨#[]⟩, true) else (⟨#[]⟩, false)

theorem marksOf_any (a : Option Addr) (b o c : Nat) (xs : List ByteArray) (i : Int) (w : World) (h : ListIn w a b o xs) :
    Calls Try.prog 77 #[.agg #[.slice a xs.length c], .int .i64 i] w fun e w' => e = .returned (.tuple #[.string (marksR xs i).1, .bool (marksR xs i).2]) ∧ Below w.heap.size w w' := by
  have hl := h.len
  have F := Lib.hid fun ob => isTable_any a b o c xs (w.alloc ob) (h.below (below_alloc w ob))
  have HS := Lib.hid h
  clear h
  by_cases ht : tableB xs = true
  · have F2 := Lib.hid fun ob => val_eq (v' := .bool true) (F.out ob) (by rw [ht])
    by_cases h0 : i < 0
    · have HR : Hid (marksR xs i = (⟨#[]⟩, false)) := Lib.hid (if_neg (by omega))
      clear ht F
      go_enter Try.func77, Try.ntmps77
      go_wp2_with fail
      refine (F2.out _).mono ?_
      rintro e w1 ⟨rfl, hb⟩
      have hc1 : w1.cell? ⟨w.heap.size, 0, none⟩ = some (.slice a xs.length c) := (hb.cell (p := ⟨w.heap.size, 0, none⟩) (by simp)).trans (cell_new _ _ _)
      have HB := Lib.hid ((below_alloc w (.cells #[.slice a xs.length c] 29)).trans (hb.mono (by simp)))
      clear hb
      go_wp2
      go_ret2
      exact ⟨by rw [HR.out]; rfl, HB.out⟩
    · by_cases h1 : (xs.length : Int) ≤ i
      · have HR : Hid (marksR xs i = (⟨#[]⟩, false)) := Lib.hid (if_neg (by omega))
        clear ht F
        go_enter Try.func77, Try.ntmps77
        go_wp2_with fail
        refine (F2.out _).mono ?_
        rintro e w1 ⟨rfl, hb⟩
        have hc1 : w1.cell? ⟨w.heap.size, 0, none⟩ = some (.slice a xs.length c) := (hb.cell (p := ⟨w.heap.size, 0, none⟩) (by simp)).trans (cell_new _ _ _)
        have HB := Lib.hid ((below_alloc w (.cells #[.slice a xs.length c] 29)).trans (hb.mono (by simp)))
        clear hb
        go_wp2
        go_ret2
        exact ⟨by rw [HR.out]; rfl, HB.out⟩
      · obtain ⟨k, rfl⟩ : ∃ k : Nat, i = (k : Int) := ⟨i.toNat, by omega⟩
        have hk : k < xs.length := by omega
        obtain rfl := HS.out.src.1 (by omega)
        have HR : Hid (marksR xs k = (xs[k], true)) := Lib.hid (by
          unfold marksR
          rw [if_pos ⟨ht, by omega, by omega⟩, Int.toNat_natCast, List.getD_eq_getElem?_getD, List.getElem?_eq_getElem hk]; rfl)
        have HCe := Lib.hid fun w1 hb => (HS.out.below (w' := w1) hb).src.2 k _ (List.getElem?_eq_getElem hk)
        generalize xs[k] = x at HR HCe
        clear ht F
        have i0 : (0 : Int) ≤ (k : Int) := by omega
        have i1 : (k : Int) < (xs.length : Int) := by omega
        go_enter Try.func77, Try.ntmps77
        go_wp2_with fail
        refine (F2.out _).mono ?_
        rintro e w1 ⟨rfl, hb⟩
        have hc1 : w1.cell? ⟨w.heap.size, 0, none⟩ = some (.slice (some ⟨b, o, none⟩) xs.length c) := (hb.cell (p := ⟨w.heap.size, 0, none⟩) (by simp)).trans (cell_new _ _ _)
        have HB := Lib.hid ((below_alloc w (.cells #[.slice (some ⟨b, o, none⟩) xs.length c] 29)).trans (hb.mono (by simp)))
        have hcell := HCe.out w1 HB.out
        clear hb
        go_wp2
        go_ret2
        exact ⟨by rw [HR.out]; rfl, HB.out⟩
  · have F2 := Lib.hid fun ob => val_eq (v' := .bool false) (F.out ob) (by simp [ht])
    have HR : Hid (marksR xs i = (⟨#[]⟩, false)) := Lib.hid (if_neg (fun h => ht h.1))
    clear ht F
    go_enter Try.func77, Try.ntmps77
    go_wp2_with fail
    refine (F2.out _).mono ?_
    rintro e w1 ⟨rfl, hb⟩
    have HB := Lib.hid ((below_alloc w (.cells #[.slice a xs.length c] 29)).trans (hb.mono (by simp)))
    clear hb
    go_wp2
    go_ret2
    exact ⟨by rw [HR.out]; rfl, HB.out⟩

end Go.Proofs.Ythkafalpjokfeaa
