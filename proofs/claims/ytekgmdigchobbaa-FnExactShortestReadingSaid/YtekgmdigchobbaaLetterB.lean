/-
  LetterOf, the program's and the model's: both answer alike. Used by the claims on chapter 2.
-/
import Derived.Test.YtekgmdigchobbaaIsTableB
namespace Go.Proofs.Ytekgmdigchobbaa
open Go.RowKit Go.Maps Go.WideMaps
set_option linter.unusedVariables false

def letterR (xs : List ByteArray) (s : ByteArray) : Int × Bool := match tableB xs, placeB xs s with
  | true, some k => ((k : Int), true)
  | _, _ => (0, false)
theorem letterR_not {xs : List ByteArray} {s : ByteArray} (h : tableB xs = false) : letterR xs s = (0, false) := by unfold letterR; rw [h]
theorem letterR_none {xs : List ByteArray} {s : ByteArray} (h : placeB xs s = none) : letterR xs s = (0, false) := by unfold letterR; rw [h]; cases tableB xs <;> rfl
theorem letterR_some {xs : List ByteArray} {s : ByteArray} {k : Nat} (h : tableB xs = true) (hp : placeB xs s = some k) : letterR xs s = ((k : Int), true) := by unfold letterR; rw [h, hp]

set_option maxHeartbeats 4000000 in
set_option maxRecDepth 100000 in
theorem letterOf_any (a : Option Addr) (b o c : Nat) (xs : List ByteArray) (s : ByteArray) (w : World) (h : ListIn w a b o xs) (hs : s.size ≤ maxLen) :
    Calls Try.prog 26 #[.agg #[.slice a xs.length c], .string s] w fun e w' => e = .returned (.tuple #[.int .i64 (letterR xs s).1, .bool (letterR xs s).2]) ∧ Below w.heap.size w w' := by
  have hl := h.len
  have F := Lib.hid fun ob => isTable_any a b o c xs (w.alloc ob) (h.below (below_alloc w ob))
  have HS := Lib.hid h
  clear h
  by_cases ht : tableB xs = true
  · have F2 := Lib.hid fun ob => val_eq (v' := .bool true) (F.out ob) (by rw [ht])
    have G := Lib.hid fun w1 hb => letters_any a b o c xs w1 (HS.out.below hb)
    have hkey : keyOf Try.prog 9 (.string s) = some (keyB s) := keyOf_string_mk Try.underlying9 hs
    have HT := Lib.hid ht
    clear ht F
    go_enter Try.func26, Try.ntmps26
    go_wp2_with fail
    refine (F2.out _).mono ?_
    rintro e w1 ⟨rfl, hb⟩
    have hc1 : w1.cell? ⟨w.heap.size, 0, none⟩ = some (.slice a xs.length c) := (hb.cell (p := ⟨w.heap.size, 0, none⟩) (by simp)).trans (cell_new _ _ _)
    have HB := Lib.hid ((below_alloc w (.cells #[.slice a xs.length c] 26)).trans (hb.mono (by simp)))
    clear hb
    go_wp2_with fail
    refine (G.out w1 HB.out).mono ?_
    rintro e w2 ⟨B, rfl, hBg, hown, hb⟩
    have HB2 := Lib.hid (HB.out.trans (hb.mono HB.out.size))
    clear hb hBg
    go_wp2_with (first
      | (at_lookup; refine wpList_lookup_own_ok_int _ rfl _ _ 71 rfl 9 3 .i64 law9 Try.underlying71 Try.underlying3 (zeroI _) B xs.length _ rfl hown _ _ rfl hkey ?_; intro q hat hwq)
      | go_in)
    have HR : Hid (letterR xs s = (q, Maps.has (letD xs xs.length) (keyB s))) := Lib.hid (by
      have hh := letD_has xs s xs.length
      rw [List.take_length] at hh
      cases hp : placeB xs s with
      | none =>
        have h1 : s ∉ xs := placeB_none.1 hp
        have h2 : Maps.has (letD xs xs.length) (keyB s) = false := by
          rw [Bool.eq_false_iff]; exact fun e => h1 (hh.1 e)
        rw [letterR_none hp, h2]
        rw [atKey_of_not_has h2] at hat
        cases hat
        rfl
      | some k =>
        have h1 := (placeB_some.1 hp).1
        have h2 : Maps.has (letD xs xs.length) (keyB s) = true := hh.2 (List.mem_of_getElem? h1)
        rw [letterR_some HT.out hp, h2]
        rw [letD_at xs ((tableB_iff xs).1 HT.out).2.2 s k h1 _ xs.length (List.getElem?_eq_some_iff.1 h1).1 (Nat.le_refl _)] at hat
        cases hat
        rfl)
    clear hat hwq hown
    generalize Maps.has (letD xs xs.length) (keyB s) = bq at HR ⊢
    go_wp2
    go_ret2
    exact ⟨by rw [HR.out]; rfl, HB2.out⟩
  · have F2 := Lib.hid fun ob => val_eq (v' := .bool false) (F.out ob) (by simp [ht])
    have HR := Lib.hid (letterR_not (s := s) (show tableB xs = false by simpa using ht))
    clear ht F
    go_enter Try.func26, Try.ntmps26
    go_wp2_with fail
    refine (F2.out _).mono ?_
    rintro e w1 ⟨rfl, hb⟩
    have HB := Lib.hid ((below_alloc w (.cells #[.slice a xs.length c] 26)).trans (hb.mono (by simp)))
    clear hb
    go_wp2
    go_ret2
    exact ⟨by rw [HR.out]; rfl, HB.out⟩

theorem most_any (x y : Int) (w : World) : Calls Try.prog 82 #[.int .i64 x, .int .i64 y] w fun e w' => e = .returned (.int .i64 (if y < x then x else y)) ∧ w' = w := by
  by_cases h : y < x
  · rw [if_pos h]
    go_enter Try.func82, Try.ntmps82
    go_wp2
    go_ret
    exact ⟨rfl, rfl⟩
  · rw [if_neg h]
    go_enter Try.func82, Try.ntmps82
    go_wp2
    go_ret
    exact ⟨rfl, rfl⟩

set_option maxHeartbeats 4000000 in
theorem sLetterOf_any (a : Option Addr) (b o c : Nat) (xs : List ByteArray) (s : ByteArray) (w : World) (h : ListIn w a b o xs) (hs : s.size ≤ maxLen) :
    Calls Try.prog 27 #[.agg #[.slice a xs.length c], .string s] w fun e w' => e = .returned (.tuple #[.int .i64 (letterR xs s).1, .bool (letterR xs s).2]) ∧ Below w.heap.size w w' := by
  have hl := h.len
  have F := Lib.hid fun ob => stable_any a b o c xs (w.alloc ob) (h.below (below_alloc w ob))
  have HS := Lib.hid h
  have HM := Lib.hid fun w => smarks_any s w hs
  clear h
  by_cases ht : tableB xs = true
  · have F2 := Lib.hid fun ob => val_eq (v' := .bool true) (F.out ob) (by rw [ht])
    by_cases hmk : marksL (bl s) = true
    · have HM2 := Lib.hid fun w => val_eq (v' := .bool true) (HM.out w) (by rw [hmk])
      have HPl := Lib.hid fun w1 hb => place_any a b o c xs s w1 (HS.out.below hb).src hl
      cases hp : placeB xs s with
      | none =>
        have HR := Lib.hid (letterR_none hp)
        have HP2 := Lib.hid fun w1 hb => val_eq (v' := .int .i64 (-1)) (HPl.out w1 hb) (by rw [hp]; rfl)
        have HMo := Lib.hid fun w => val_eq (v' := .int .i64 0) (most_any (-1) 0 w) (by rfl)
        clear ht hmk hp F HM HPl
        go_enter Try.func27, Try.ntmps27
        go_wp2_with fail
        refine (F2.out _).mono ?_
        rintro e w1 ⟨rfl, hb⟩
        have hc1 : w1.cell? ⟨w.heap.size, 0, none⟩ = some (.slice a xs.length c) := (hb.cell (p := ⟨w.heap.size, 0, none⟩) (by simp)).trans (cell_new _ _ _)
        have HB := Lib.hid ((below_alloc w (.cells #[.slice a xs.length c] 26)).trans (hb.mono (by simp)))
        clear hb
        go_wp2_with fail
        refine (HM2.out _).mono ?_
        rintro e w2 ⟨rfl, q, rfl⟩
        go_wp2_with fail
        refine (HP2.out (w1.drewN q) (HB.out.trans ⟨rfl, rfl, rfl, Nat.le_refl _, fun _ _ => rfl⟩)).mono ?_
        rintro e w3 ⟨rfl, rfl⟩
        go_wp2_with fail
        refine (HMo.out _).mono ?_
        rintro e w4 ⟨rfl, rfl⟩
        go_wp2
        go_ret2
        exact ⟨by rw [HR.out]; rfl, HB.out.trans ⟨rfl, rfl, rfl, Nat.le_refl _, fun _ _ => rfl⟩⟩
      | some k =>
        have HR := Lib.hid (letterR_some ht hp)
        have HP2 := Lib.hid fun w1 hb => val_eq (v' := .int .i64 k) (HPl.out w1 hb) (by rw [hp]; rfl)
        have HMo := Lib.hid fun w => val_eq (v' := .int .i64 k) (most_any k 0 w) (by split <;> congr 1; omega)
        clear ht hmk hp F HM HPl
        go_enter Try.func27, Try.ntmps27
        go_wp2_with fail
        refine (F2.out _).mono ?_
        rintro e w1 ⟨rfl, hb⟩
        have hc1 : w1.cell? ⟨w.heap.size, 0, none⟩ = some (.slice a xs.length c) := (hb.cell (p := ⟨w.heap.size, 0, none⟩) (by simp)).trans (cell_new _ _ _)
        have HB := Lib.hid ((below_alloc w (.cells #[.slice a xs.length c] 26)).trans (hb.mono (by simp)))
        clear hb
        go_wp2_with fail
        refine (HM2.out _).mono ?_
        rintro e w2 ⟨rfl, q, rfl⟩
        go_wp2_with fail
        refine (HP2.out (w1.drewN q) (HB.out.trans ⟨rfl, rfl, rfl, Nat.le_refl _, fun _ _ => rfl⟩)).mono ?_
        rintro e w3 ⟨rfl, rfl⟩
        go_wp2_with fail
        refine (HMo.out _).mono ?_
        rintro e w4 ⟨rfl, rfl⟩
        go_wp2
        go_ret2
        exact ⟨by rw [HR.out]; simp, HB.out.trans ⟨rfl, rfl, rfl, Nat.le_refl _, fun _ _ => rfl⟩⟩
    · have HM2 := Lib.hid fun w => val_eq (v' := .bool false) (HM.out w) (by simp [hmk])
      have HR := Lib.hid (letterR_none (xs := xs) (s := s) (placeB_none.2 (fun hm => hmk (((tableB_iff xs).1 ht).2.1 s hm))))
      clear ht hmk F HM
      go_enter Try.func27, Try.ntmps27
      go_wp2_with fail
      refine (F2.out _).mono ?_
      rintro e w1 ⟨rfl, hb⟩
      have hc1 : w1.cell? ⟨w.heap.size, 0, none⟩ = some (.slice a xs.length c) := (hb.cell (p := ⟨w.heap.size, 0, none⟩) (by simp)).trans (cell_new _ _ _)
      have HB := Lib.hid ((below_alloc w (.cells #[.slice a xs.length c] 26)).trans (hb.mono (by simp)))
      clear hb
      go_wp2_with fail
      refine (HM2.out _).mono ?_
      rintro e w2 ⟨rfl, q, rfl⟩
      go_wp2
      go_ret2
      exact ⟨by rw [HR.out]; rfl, HB.out.trans ⟨rfl, rfl, rfl, Nat.le_refl _, fun _ _ => rfl⟩⟩
  · have F2 := Lib.hid fun ob => val_eq (v' := .bool false) (F.out ob) (by simp [ht])
    have HR := Lib.hid (letterR_not (s := s) (show tableB xs = false by simpa using ht))
    clear ht F
    go_enter Try.func27, Try.ntmps27
    go_wp2_with fail
    refine (F2.out _).mono ?_
    rintro e w1 ⟨rfl, hb⟩
    have HB := Lib.hid ((below_alloc w (.cells #[.slice a xs.length c] 26)).trans (hb.mono (by simp)))
    clear hb
    go_wp2
    go_ret2
    exact ⟨by rw [HR.out]; rfl, HB.out⟩

theorem letterOf_both (xs : List ByteArray) (s : ByteArray) (hl : xs.length ≤ 1048576) (ht : ∀ x ∈ xs, x.size ≤ 1048576) (hs : s.size ≤ 1048576) : ∃ (R0 : Int) (R1 : Bool),
    Hid (∀ W a b o c, ListIn W a b o xs → Calls Try.prog 27 #[.agg #[.slice a xs.length c], .string s] W fun e W' => e = .returned (.tuple #[.int .i64 R0, .bool R1]) ∧ Below W.heap.size W W') ∧
    Hid (∀ W a b o c, ListIn W a b o xs → Calls Try.prog 26 #[.agg #[.slice a xs.length c], .string s] W fun e W' => e = .returned (.tuple #[.int .i64 R0, .bool R1]) ∧ Below W.heap.size W W') :=
  ⟨_, _, fun W a b o c h => sLetterOf_any a b o c xs s W h (by unfold maxLen; omega), fun W a b o c h => letterOf_any a b o c xs s W h (by unfold maxLen; omega)⟩
end Go.Proofs.Ytekgmdigchobbaa
