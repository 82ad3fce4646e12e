/-
  sort.Slice over isBefore at twelve texts or fewer; sortByTimes. Used by the claims on chapter 8.
-/
import Derived.Test.YtdphjnbelggcfaaPdqS
namespace Go.Proofs.Ytdphjnbelggcfaa
open Go.RowKit
open Go.Shelf Go.Lib
set_option linter.unusedVariables false

set_option maxRecDepth 100000 in
theorem sortSlice_any (X B n cap : Nat) (ys : List ByteArray) (w : World) (hX : w.cell? ⟨X, 0, none⟩ = some (.slice (some ⟨B, 0, none⟩) n cap)) (hXB : X ≠ B) (hr : RowO w B ys) (hl : ys.length = n) (hmk : ∀ y ∈ ys, marksL (bl y) = true) (hd : DifB ys) (h1 : 1 ≤ n) (hn : n ≤ 12) :
    Calls Try.prog 153 #[.iface 28 (.slice (some ⟨B, 0, none⟩) n cap), .func (.func 154) #[] #[.pointer (some ⟨X, 0, none⟩)]] w fun e w' => e = .returned (.tuple #[]) ∧ ∃ ys', SrtM w w' B n ys ys' ∧ SrtB ys' := by
  have hp : ∀ sf sb, SwapT sf sb B n → Calls Try.prog 176 #[.agg #[.func (.func 154) #[] #[.pointer (some ⟨X, 0, none⟩)], .func (.func sf) #[] sb], .int .i64 0, .int .i64 n, .int .i64 (Lib.bitLen n)] (sliceWorld Try.prog Try.gl6_ren 28 (some ⟨B, 0, none⟩) n cap w) fun e w' => e = .returned (.tuple #[]) ∧ ∃ ys', SrtM w w' B n ys ys' ∧ SrtB ys' := fun sf sb hsw => by
    unfold sliceWorld
    refine (pdqSmall_any X B n cap sf sb _ ys _ (keep_cell _ _ (keep_cell w _ hX)) hXB ((hr.below (below_alloc _ _)).below (below_alloc _ _)) hl hmk hd hn hsw).mono ?_
    rintro e w' ⟨he, ys', hM, hS⟩
    exact ⟨he, ys', hM.under.under, hS⟩
  by_cases h2 : 2 ≤ n
  · exact Any.sort_Slice_of_pdq Try.gl6 28 9 stT stE (by kernel_rfl) (by kernel_rfl) (by kernel_rfl) (by kernel_rfl) 24 (fun _ => by kernel_rfl) (some ⟨B, 0, none⟩) n cap (by omega) 198 (by rw [stK n h2]; kernel_rfl) (.func 154) #[] #[.pointer (some ⟨X, 0, none⟩)] w _
      (by unfold sliceBound; rw [stK n h2]; exact hp _ _ (swapT_of B n cap))
  · have e1 : n = 1 := by omega
    subst e1
    exact Any.sort_Slice_of_pdq Try.gl6 28 9 stT stE (by kernel_rfl) (by kernel_rfl) (by kernel_rfl) (by kernel_rfl) 24 (fun _ => by kernel_rfl) (some ⟨B, 0, none⟩) 1 cap (by omega) 196 (by rw [stK1]; kernel_rfl) (.func 154) #[] #[.pointer (some ⟨X, 0, none⟩)] w _
      (by unfold sliceBound; rw [stK1]; exact hp _ _ (fun W zs i j _ _ hi hj hne => absurd (by omega : i = j) hne))

set_option maxHeartbeats 1000000 in
set_option maxRecDepth 100000 in
theorem sortByTimes_any (B n cap : Nat) (ys : List ByteArray) (w : World) (hr : RowO w B ys) (hl : ys.length = n) (hmk : ∀ y ∈ ys, marksL (bl y) = true) (hd : DifB ys) (h1 : 1 ≤ n) (hn : n ≤ 12) :
    Calls Try.prog 136 #[.slice (some ⟨B, 0, none⟩) n cap] w fun e w' => e = .returned (.tuple #[]) ∧ ∃ ys', SrtM w w' B n ys ys' ∧ SrtB ys' := by
  have hne : w.heap.size ≠ B := by have := hr.lt; omega
  have HS := Lib.hid (sortSlice_any w.heap.size B n cap ys (w.alloc (.cells #[.slice (some ⟨B, 0, none⟩) n cap] 28)) (cell_new _ _ _) hne (hr.below (below_alloc _ _)) hl hmk hd h1 hn)
  have hc : (w.alloc (.cells #[.slice (some ⟨B, 0, none⟩) n cap] 28)).cell? ⟨w.heap.size, 0, none⟩ = some (.slice (some ⟨B, 0, none⟩) n cap) := cell_new _ _ _
  clear hr hl hmk hd h1 hn
  go_enter Try.func136, Try.ntmps136
  go_wp2_with fail
  refine HS.out.mono ?_
  rintro e w' ⟨rfl, ys', hM, hS⟩
  have HM := Lib.hid hM.under
  have HS2 := Lib.hid hS
  clear hM hS
  (try go_wp2)
  (try simp only [Exit.inBlock, Exit.then])
  refine bodyPost_end (v := .tuple #[]) (results_none rfl _ _ _) rfl ?_
  exact ⟨rfl, ys', HM.out, HS2.out⟩
end Go.Proofs.Ytdphjnbelggcfaa
