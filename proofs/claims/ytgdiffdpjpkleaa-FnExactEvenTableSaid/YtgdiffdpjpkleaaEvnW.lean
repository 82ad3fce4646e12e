/-
  evenMarks and EvenTable of the program: one more mark for each letter. Used by the claims on chapter 6.
-/
import Derived.Test.YtgdiffdpjpkleaaCpS
import Derived.Test.YtgdiffdpjpkleaaMarkT
import Derived.Deep.AppendLies
import Derived.Deep.RegionLaw
import Derived.Lib.Bytealg
namespace Go.Proofs.Ytgdiffdpjpkleaa
open Go.RowKit
set_option linter.unusedVariables false

/-! ### Plain -/
def evenL (l : Bs) : Bs := l ++ [if cnt 45 l % 2 = 0 then 46 else 45]
def evenB (xs : List ByteArray) : List ByteArray := xs.map fun x => ba (evenL (bl x))
theorem evenB_len (xs : List ByteArray) : (evenB xs).length = xs.length := by simp [evenB]
theorem evenB_take (xs : List ByteArray) (k : Nat) (x : ByteArray) (h : xs[k]? = some x) : evenB (xs.take (k + 1)) = evenB (xs.take k) ++ [ba (evenL (bl x))] := by
  unfold evenB
  rw [List.take_add_one, h]; simp
def evOk (xs : List ByteArray) : Bool := tableB xs && tableB (evenB xs)
def evT (xs : List ByteArray) : List ByteArray := if evOk xs = true then evenB xs else []
theorem evT_len (xs : List ByteArray) : (evT xs).length ≤ 10 := by
  unfold evT
  by_cases h : evOk xs = true
  · rw [if_pos h, evenB_len]
    unfold evOk at h
    rw [Bool.and_eq_true] at h
    exact (table_le h.1).2
  · rw [if_neg h]; simp
theorem evenB_small {xs : List ByteArray} (h : ∀ x ∈ xs, x.size ≤ 5) : ∀ y ∈ evenB xs, y.size ≤ 1048576 := fun y hy => by
  obtain ⟨x, hx, rfl⟩ := List.mem_map.1 hy
  have h5 := h x hx
  rw [ba_size]
  simp only [evenL, List.length_append, List.length_cons, List.length_nil, bl_len]
  omega
theorem ba_cat (x : ByteArray) (c : UInt8) : x ++ (⟨#[c]⟩ : ByteArray) = ba (bl x ++ [c]) := by
  unfold ba bl
  apply ByteArray.ext
  apply Array.toList_inj.1
  simp

/-! ### How many dashes -/
set_option maxRecDepth 100000 in
theorem count_any (s : ByteArray) (w : World) : Calls Try.prog 125 #[.string s, .string ⟨#[45]⟩] w fun e w' => e = .returned (.int .i64 (cnt 45 (bl s) : Int)) ∧ w' = w := by
  have hc : Lib.countByte s.data.toList 45 = cnt 45 (bl s) := by
    unfold Lib.countByte cnt bl
    rfl
  go_enter Try.func125, Try.ntmps125
  go_wp2
  rw [run_callFunc_extern Try.func135 (by kernel_rfl) (by kernel_rfl) (by kernel_rfl) (e := Extern.BytealgCount.count) (by kernel_rfl), Lib.run_countString]
  simp only [Result.andThen]
  rw [Oper.upon_value]
  go_wp2
  go_ret
  exact ⟨by rw [← hc]; rfl, rfl⟩
theorem evenMarks_any (x : ByteArray) (w : World) (hx : x.size ≤ 5) : Calls Try.prog 101 #[.string x] w fun e w' => e = .returned (.string (ba (evenL (bl x)))) ∧ w' = w := by
  have HC := Lib.hid fun w => count_any x w
  have hle : cnt 45 (bl x) ≤ 5 := by
    have h1 : cnt 45 (bl x) ≤ (bl x).length := List.countP_le_length
    rw [bl_len] at h1
    omega
  by_cases h2 : cnt 45 (bl x) % 2 = 0
  · have HE : Hid (ba (evenL (bl x)) = x ++ (⟨#[46]⟩ : ByteArray)) := Lib.hid (by rw [ba_cat]; unfold evenL; rw [if_pos h2])
    rw [HE.out]
    generalize cnt 45 (bl x) = m at HC h2 hle
    have t1 : ((m : Int).tmod 2 == 0) = true := by rw [Int.tmod_eq_emod_of_nonneg (by omega)]; simp; omega
    have t2 : ((m : Int) % 2 == 0) = true := by simp; omega
    clear h2
    go_enter Try.func101, Try.ntmps101
    go_wp2_with fail
    refine (HC.out _).mono ?_
    rintro e w1 ⟨rfl, hww⟩
    obtain rfl := hww.symm
    go_wp2
    go_ret
    exact ⟨rfl, rfl⟩
  · have HE : Hid (ba (evenL (bl x)) = x ++ (⟨#[45]⟩ : ByteArray)) := Lib.hid (by rw [ba_cat]; unfold evenL; rw [if_neg h2])
    rw [HE.out]
    generalize cnt 45 (bl x) = m at HC h2 hle
    have t1 : ((m : Int).tmod 2 == 0) = false := by rw [Int.tmod_eq_emod_of_nonneg (by omega)]; exact beq_false_of_ne (by omega)
    have t2 : ((m : Int) % 2 == 0) = false := beq_false_of_ne (by omega)
    clear h2
    go_enter Try.func101, Try.ntmps101
    go_wp2_with fail
    refine (HC.out _).mono ?_
    rintro e w1 ⟨rfl, hww⟩
    obtain rfl := hww.symm
    go_wp2
    go_ret
    exact ⟨rfl, rfl⟩
end Go.Proofs.Ytgdiffdpjpkleaa
