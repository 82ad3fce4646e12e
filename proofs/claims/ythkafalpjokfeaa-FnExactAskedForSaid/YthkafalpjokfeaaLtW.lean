/-
  areLetters, AreLetters of the program; l11Letters, AreLetters of the model. Used by the claims on chapter 11.
-/
import Derived.Test.YthkafalpjokfeaaLtD
import Derived.Test.YthkafalpjokfeaaWgW
namespace Go.Proofs.Ythkafalpjokfeaa
open Go.RowKit
set_option linter.unusedVariables false

def prevI (l : List Int) (k : Nat) : Int := if k = 0 then -1 else l.getD (k - 1) 0
theorem prev_ge {n : Nat} {l : List Int} {k : Nat} (hA : ∀ j, j < k → okL n l j = true) : -1 ≤ prevI l k := by
  unfold prevI
  split
  · omega
  · have := (okL_iff.1 (hA (k - 1) (by omega))).1; omega
theorem prev_succ (l : List Int) (k : Nat) (hk : k < l.length) : prevI l (k + 1) = l[k] := by
  unfold prevI
  rw [if_neg (by omega), Nat.add_sub_cancel, getD_at hk]
theorem prev_ok {n : Nat} {l : List Int} {k : Nat} (hk : k < l.length) (hA : ∀ j, j < k → okL n l j = true) (h1 : prevI l k < l[k]) (h2 : l[k] < (n : Int)) : okL n l k = true := by
  have h3 := prev_ge hA
  rw [okL_iff, getD_at hk]
  refine ⟨by omega, h2, fun h => ?_⟩
  unfold prevI at h1
  rw [if_neg h] at h1
  exact h1
theorem prev_no {n : Nat} {l : List Int} {k : Nat} (hk : k < l.length) (h1 : ¬ (prevI l k < l[k] ∧ l[k] < (n : Int))) : okL n l k = false := by
  refine okL_no fun h => h1 ?_
  rw [getD_at hk] at h
  refine ⟨?_, h.2.1⟩
  unfold prevI
  split
  · omega
  · exact h.2.2 (by assumption)
theorem ok_step {n : Nat} {l : List Int} {k : Nat} (hA : ∀ j, j < k → okL n l j = true) (h : okL n l k = true) : ∀ j, j < k + 1 → okL n l j = true := fun j hj => by
  by_cases e : j = k
  · subst e; exact h
  · exact hA j (by omega)

set_option maxHeartbeats 1000000 in
theorem areLt_any (a : Option Addr) (b o c : Nat) (xs : List ByteArray) (a1 : Option Addr) (g1 c1 : Nat) (l : List Int) (w : World) (hxl : xs.length ≤ 1048576) (hs : SrcV w a1 g1 (intz l)) (hl : l.length ≤ 1048576) :
    Calls Try.prog 68 #[.agg #[.slice a xs.length c], .slice a1 l.length c1] w fun e w' => e = .returned (.bool (ltB xs.length l)) ∧ Below w.heap.size w w' := by
  have HX := Lib.hid hs.1
  have HC := Lib.hid fun W (hb : Below w.heap.size w W) => (hs.below hb).2
  have HK := Lib.hid (cell_new w (.slice a xs.length c) 29)
  have HB0 := Lib.hid (below_alloc w (.cells #[.slice a xs.length c] 29))
  clear hs
  have HF : Hid (ltB xs.length l = ltB xs.length l) := Lib.hid rfl
  go_enter Try.func68, Try.ntmps68
  go_wp2
  go_loopw [5, 10] (fun s v wr => ∃ (k : Nat) (z : Int), v = .int .i64 k ∧ k ≤ l.length ∧ s = .int .i64 z ∧ Hid (z = prevI l k) ∧ wr.cell? ⟨w.heap.size, 0, none⟩ = some (.slice a xs.length c) ∧ Hid (Below w.heap.size w wr) ∧ Hid (∀ j, j < k → okL xs.length l j = true)) (fun _ v _ => l.length - (intOf v).toNat)
  case atStart => exact ⟨0, -1, rfl, Nat.zero_le _, rfl, Lib.hid rfl, HK.out, HB0, Lib.hid fun j hj => absurd hj (by omega)⟩
  case round =>
    obtain ⟨k, z, rfl, hk, rfl, HZ, hc, HB, HA⟩ := hrel
    by_cases hlt : k < l.length
    · obtain rfl := HX.out (by rw [intz_len]; omega)
      have d1 := HC.out _ HB.out k _ (intz_at hlt)
      have HO := Lib.hid (prev_ok (n := xs.length) hlt HA.out)
      have HN := Lib.hid (fun h => ltB_no hlt (prev_no (n := xs.length) hlt h))
      have HS := Lib.hid (prev_succ l k hlt)
      rw [← HZ.out] at HO HN
      generalize l[k] = x at d1 HO HN HS
      clear HZ
      by_cases h1 : x ≤ z
      · have HR := Lib.hid (HN.out (by omega))
        go_wp2
        go_ret
        exact ⟨by rw [HR.out]; rfl, HB.out⟩
      · by_cases h2 : (xs.length : Int) ≤ x
        · have HR := Lib.hid (HN.out (by omega))
          go_wp2
          go_ret
          exact ⟨by rw [HR.out]; rfl, HB.out⟩
        · have HA2 := Lib.hid (ok_step HA.out (HO.out (by omega) (by omega)))
          go_wp2
          go_roundw
          case rel => exact ⟨k + 1, x, by go_num, by omega, rfl, Lib.hid HS.out.symm, hc, HB, HA2⟩
          case measure => simp [intOf]; omega
    · obtain rfl : k = l.length := by omega
      have HR : Hid (ltB xs.length l = decide (0 < l.length)) := Lib.hid (ltB_all HA.out)
      go_wp2
      go_ret
      exact ⟨by rw [HR.out]; rfl, HB.out⟩
def lttB (xs : List ByteArray) (l : List Int) : Bool := tableB xs && ltB xs.length l
set_option maxHeartbeats 1000000 in
theorem areLettersT_any (a : Option Addr) (b o c : Nat) (xs : List ByteArray) (a1 : Option Addr) (g1 c1 : Nat) (l : List Int) (w : World) (h : ListIn w a b o xs) (hs : SrcV w a1 g1 (intz l)) (hl : l.length ≤ 1048576) :
    Calls Try.prog 21 #[.agg #[.slice a xs.length c], .slice a1 l.length c1] w fun e w' => e = .returned (.tuple #[.bool (lttB xs l), .bool (tableB xs)]) ∧ Below w.heap.size w w' := by
  have hxl := h.len
  have F := Lib.hid fun ob => isTable_any a b o c xs (w.alloc ob) (h.below (below_alloc w ob))
  have G := Lib.hid fun W (hb : Below w.heap.size w W) => areLt_any a b o c xs a1 g1 c1 l W hxl (hs.below hb) hl
  have HK := Lib.hid (cell_new w (.slice a xs.length c) 29)
  clear h hs
  by_cases ht : tableB xs = true
  · have F2 := Lib.hid fun ob => val_eq (v' := .bool true) (F.out ob) (by rw [ht])
    have HR : Hid (lttB xs l = ltB xs.length l) := Lib.hid (by unfold lttB; rw [ht, Bool.true_and])
    rw [ht, HR.out]
    clear F ht HR
    go_enter Try.func21, Try.ntmps21
    go_wp2_with fail
    refine (F2.out _).mono ?_
    rintro e w1 ⟨rfl, hb⟩
    have HB := Lib.hid ((below_alloc w (.cells #[.slice a xs.length c] 29)).trans (hb.mono (by simp)))
    have hc := (hb.cell (p := ⟨w.heap.size, 0, none⟩) (by simp)).trans HK.out
    clear hb
    go_wp2_with fail
    refine (G.out _ HB.out).mono ?_
    rintro e w2 ⟨rfl, hb⟩
    have HB2 := Lib.hid (HB.out.trans (hb.mono HB.out.size))
    clear hb
    go_wp2
    go_ret2
    exact ⟨rfl, HB2.out⟩
  · have F2 := Lib.hid fun ob => val_eq (v' := .bool false) (F.out ob) (by simp [ht])
    have HR : Hid (lttB xs l = false ∧ tableB xs = false) := Lib.hid (by simp [lttB, ht])
    rw [HR.out.1, HR.out.2]
    clear F ht HR
    go_enter Try.func21, Try.ntmps21
    go_wp2_with fail
    refine (F2.out _).mono ?_
    rintro e w1 ⟨rfl, hb⟩
    have HB := Lib.hid ((below_alloc w (.cells #[.slice a xs.length c] 29)).trans (hb.mono (by simp)))
    clear hb
    go_wp2
    go_ret2
    exact ⟨rfl, HB.out⟩
set_option maxHeartbeats 1000000 in
/-- areLettersOf: for a Table of which nothing is known. -/
theorem areOf_any (a : Option Addr) (b o c : Nat) (xs : List ByteArray) (a1 : Option Addr) (g1 c1 : Nat) (l : List Int) (w : World) (h : ListIn w a b o xs) (hs : SrcV w a1 g1 (intz l)) (hl : l.length ≤ 1048576) :
    Calls Try.prog 86 #[.agg #[.slice a xs.length c], .slice a1 l.length c1] w fun e w' => e = .returned (.bool (lttB xs l)) ∧ Below w.heap.size w w' := by
  have hxl := h.len
  have F := Lib.hid fun ob => isTable_any a b o c xs (w.alloc ob) (h.below (below_alloc w ob))
  have G := Lib.hid fun W (hb : Below w.heap.size w W) => areLt_any a b o c xs a1 g1 c1 l W hxl (hs.below hb) hl
  have HK := Lib.hid (cell_new w (.slice a xs.length c) 29)
  clear h hs
  by_cases ht : tableB xs = true
  · have F2 := Lib.hid fun ob => val_eq (v' := .bool true) (F.out ob) (by rw [ht])
    have HR : Hid (lttB xs l = ltB xs.length l) := Lib.hid (by unfold lttB; rw [ht, Bool.true_and])
    rw [HR.out]
    clear F ht HR
    go_enter Try.func86, Try.ntmps86
    go_wp2_with fail
    refine (F2.out _).mono ?_
    rintro e w1 ⟨rfl, hb⟩
    have HB := Lib.hid ((below_alloc w (.cells #[.slice a xs.length c] 29)).trans (hb.mono (by simp)))
    have hc := (hb.cell (p := ⟨w.heap.size, 0, none⟩) (by simp)).trans HK.out
    clear hb
    go_wp2_with fail
    refine (G.out _ HB.out).mono ?_
    rintro e w2 ⟨rfl, hb⟩
    have HB2 := Lib.hid (HB.out.trans (hb.mono HB.out.size))
    clear hb
    go_wp2
    go_ret
    exact ⟨rfl, HB2.out⟩
  · have F2 := Lib.hid fun ob => val_eq (v' := .bool false) (F.out ob) (by simp [ht])
    have HR : Hid (lttB xs l = false) := Lib.hid (by simp [lttB, ht])
    rw [HR.out]
    clear F ht HR
    go_enter Try.func86, Try.ntmps86
    go_wp2_with fail
    refine (F2.out _).mono ?_
    rintro e w1 ⟨rfl, hb⟩
    have HB := Lib.hid ((below_alloc w (.cells #[.slice a xs.length c] 29)).trans (hb.mono (by simp)))
    clear hb
    go_wp2
    go_ret
    exact ⟨rfl, HB.out⟩
end Go.Proofs.Ythkafalpjokfeaa
