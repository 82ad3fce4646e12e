/-
  pdqsort_func and sort.Slice over isBefore at twelve texts or fewer; sortByTimes. Used by the claims on chapter 8.
-/
import Derived.Test.YtdphjnbelggcfaaInsW
import Derived.Test.YtdphjnbelggcfaaSh2
namespace Go.Proofs.Ytdphjnbelggcfaa
open Go.RowKit
set_option linter.unusedVariables false

theorem SrtM.under {w wr : World} {o : Obj} {B n : Nat} {ys0 ys : List ByteArray} (h : SrtM (w.alloc o) wr B n ys0 ys) : SrtM w wr B n ys0 ys :=
  ⟨h.row, h.len, grown_trans_some (grown_of_below (below_alloc w o)) h.grown, h.same, h.dif⟩
set_option maxHeartbeats 2000000 in
set_option maxRecDepth 100000 in
theorem pdqSmall_any (X B n cap sf : Nat) (sb : Array Value) (lim : Int) (ys : List ByteArray) (w : World) (hX : w.cell? ⟨X, 0, none⟩ = some (.slice (some ⟨B, 0, none⟩) n cap)) (hXB : X ≠ B) (hr : RowO w B ys) (hl : ys.length = n) (hmk : ∀ y ∈ ys, marksL (bl y) = true) (hd : DifB ys) (hn : n ≤ 12) (hsw : SwapT sf sb B n) :
    Calls Try.prog 176 #[.agg #[.func (.func 154) #[] #[.pointer (some ⟨X, 0, none⟩)], .func (.func sf) #[] sb], .int .i64 0, .int .i64 n, .int .i64 lim] w fun e w' => e = .returned (.tuple #[]) ∧ ∃ ys', SrtM w w' B n ys ys' ∧ SrtB ys' := by
  have HI := Lib.hid (insSort_any X B n cap sf sb ys (w.alloc (.cells #[.func (.func 154) #[] #[.pointer (some ⟨X, 0, none⟩)], .func (.func sf) #[] sb] 167)) (keep_cell w _ hX) hXB (hr.below (below_alloc _ _)) hl hmk hd (by omega) hsw)
  have h12 : (n : Int) ≤ 12 := by omega
  clear hX hXB hr hl hmk hd hsw
  go_enter Try.func176, Try.ntmps176
  go_wp2
  refine wp_loop_rounds 1 ?_
  rw [rounds_succ]
  go_wp2_with fail
  refine HI.out.mono ?_
  rintro e w' ⟨rfl, ys', hM, hS⟩
  have HM := Lib.hid hM.under
  have HS := Lib.hid hS
  clear hM hS
  (try go_wp2)
  (try simp only [Exit.inBlock, Exit.then])
  refine bodyPost_ret (results_none rfl _ _ _) rfl ?_
  exact ⟨rfl, ys', HM.out, HS.out⟩

open Go.Shelf Go.Lib Go.Sort in
noncomputable def stT : TypeInfo := (Try.prog.info? 28).get (by kernel_rfl)
noncomputable def stE : TypeInfo := (Try.prog.info? 9).get (by kernel_rfl)
theorem stK (n : Nat) (h2 : 2 ≤ n) : Go.Lib.swapperK n stE 24 = 4 := by
  have a : stE.hasPointers = true := by kernel_rfl
  have b : stE.bytes = 16 := by kernel_rfl
  have c : (n == 0) = false := by simp; omega
  have d : (n == 1) = false := by simp; omega
  simp [Go.Lib.swapperK, a, b, c, d]
theorem stK1 : Go.Lib.swapperK 1 stE 24 = 2 := by
  simp [Go.Lib.swapperK]
theorem swapT_of (B n cap : Nat) : SwapT 198 #[.slice (some ⟨B, 0, none⟩) n cap, typeHandle Try.prog 9] B n := fun W ys i j hr hl hi hj hne => by
  have h := swapSwaps_of_literal (P := Try.prog) true 198
    (fun args W => run_callFunc_extern Try.func198 (by kernel_rfl) (by kernel_rfl) (by kernel_rfl) (e := Extern.ReflectliteSwapper.swap true) (by kernel_rfl) args W)
    9 stE (by kernel_rfl) (by kernel_rfl) (fun _ => by kernel_rfl) Value.string (fun _ => rfl) B 0 n cap W ys.toArray (fun k hk => by
      have hk2 : k < ys.length := by simpa using hk
      have e : ys.toArray[k]! = gB ys k := by
        unfold gB
        rw [getElem!_pos _ k (by simpa using hk2), List.getD_eq_getElem?_getD, List.getElem?_eq_getElem hk2]; simp
      rw [e, Nat.zero_add]
      exact ⟨hr.cell k hk2, hr.opn k hk2⟩) (by simpa using hl) i j hi hj
  have ei : ys.toArray[i]! = gB ys i := by
    unfold gB
    rw [getElem!_pos _ i (by simp; omega), List.getD_eq_getElem?_getD, List.getElem?_eq_getElem (by omega)]; simp
  have ej : ys.toArray[j]! = gB ys j := by
    unfold gB
    rw [getElem!_pos _ j (by simp; omega), List.getD_eq_getElem?_getD, List.getElem?_eq_getElem (by omega)]; simp
  rw [ei, ej, Nat.zero_add, Nat.zero_add] at h
  exact h
end Go.Proofs.Ytdphjnbelggcfaa
