/-
  AskedFor of the program and of the model: both answer alike. Used by the claims on chapter 11.
-/
import Derived.Test.YthkafalpjokfeaaAkS
import Derived.Test.YthkafalpjokfeaaMarkB
namespace Go.Proofs.Ythkafalpjokfeaa
open Go.RowKit Go.Shelf
set_option linter.unusedVariables false

def akL (xs : List ByteArray) (i : Int) : List Nat := if (marksR xs i).2 = true then asked xs (atL xs i.toNat) (List.range xs.length) else []
theorem ak_le (xs : List ByteArray) (i : Int) : (akL xs i).length ≤ xs.length := by
  unfold akL
  split
  · have := asked_le xs (atL xs i.toNat) (List.range xs.length)
    rwa [List.length_range] at this
  · simp
theorem seqOut_nothingA {W W' : World} (hb : Below W.heap.size W W') (a : Option Addr) (c : Nat) : SeqOut [] 0 false W (.returned (.tuple #[.slice a 0 c, .bool false])) W' := seqOut_nothingB hb a c
set_option maxHeartbeats 2000000 in
theorem askedFor_any (a : Option Addr) (b o c : Nat) (xs : List ByteArray) (i : Int) (w : World) (h : ListIn w a b o xs) :
    Calls Try.prog 46 #[.agg #[.slice a xs.length c], .int .i64 i] w (SeqOut (ints (akL xs i)) (akL xs i).length (marksR xs i).2 w) := by
  have F := Lib.hid fun W hb => marksOf_any a b o c xs i W (h.below (w' := W) hb)
  have HAf := Lib.hid fun W => askingFor_any a c xs W
  have hc0 := cell_new w (.slice a xs.length c) 29
  have HB0 := Lib.hid (below_alloc w (.cells #[.slice a xs.length c] 29))
  cases hm : (marksR xs i).2 with
  | false =>
    have HL : Hid (akL xs i = []) := Lib.hid (if_neg (by rw [hm]; simp))
    rw [HL.out]
    rw [hm] at F
    generalize (marksR xs i).1 = x at F
    clear h hm HL
    go_enter Try.func46, Try.ntmps46
    go_wp2_with fail
    refine (F.out _ HB0.out).mono ?_
    rintro e w1 ⟨rfl, hb⟩
    have HB1 := Lib.hid (HB0.out.trans (hb.mono HB0.out.size))
    clear hb hc0
    go_wp2
    go_ret2
    exact seqOut_nothingA HB1.out _ _
  | true =>
    have HL : Hid (akL xs i = asked xs (atL xs i.toNat) (List.range xs.length)) := Lib.hid (if_pos hm)
    rw [HL.out]
    rw [hm] at F
    obtain ⟨ht, hi0, hi1, hx⟩ := marksR_at hm
    obtain ⟨k, rfl⟩ : ∃ k : Nat, i = (k : Int) := ⟨i.toNat, by omega⟩
    rw [Int.toNat_natCast]
    have HP := Lib.hid fun M W n hb hd hn => placesFor_any a b o c xs M k n W ht (by omega) (h.below (w' := W) hb) hd hn
    generalize (marksR xs k).1 = x at F
    generalize asked xs (atL xs k) (List.range xs.length) = ps at HP ⊢
    clear h hm HL ht hi0 hi1 hx
    go_enter Try.func46, Try.ntmps46
    go_wp2_with fail
    refine (F.out _ HB0.out).mono ?_
    rintro e w1 ⟨rfl, hb⟩
    have HB1 := Lib.hid (HB0.out.trans (hb.mono HB0.out.size))
    have hc1 := cell_belowB hb hc0
    clear hb hc0
    go_wp2_with fail
    refine (HAf.out _).mono ?_
    rintro e w2 ⟨M, rfl, hM, hd, hb⟩
    have HB2 := Lib.hid (HB1.out.trans (hb.mono HB1.out.size))
    have HM := Lib.hid (Nat.le_trans HB1.out.size hM)
    have HDm := Lib.hid hd
    clear hb hd hM
    go_wp2_with fail
    refine (HP.out M w2 0 HB2.out HDm.out (by unfold lim; omega)).mono ?_
    rintro e w3 ⟨a3, c3, rfl, hrow, hg, _⟩
    have HB3 := Lib.hid (below_asked HB2.out hg HM.out)
    have HS := Lib.hid (seqOut_rowB hrow HB2.out.size HB3.out)
    clear hg hrow
    go_wp2
    go_ret2
    exact HS.out
set_option maxHeartbeats 2000000 in
theorem sAskedFor_any (a : Option Addr) (b o c : Nat) (xs : List ByteArray) (i : Int) (w : World) (h : ListIn w a b o xs) :
    Calls Try.prog 45 #[.agg #[.slice a xs.length c], .int .i64 i] w (SeqOut (ints (akL xs i)) (akL xs i).length (marksR xs i).2 w) := by
  have F := Lib.hid fun W hb => sLetr_any a b o c xs i W (h.below (w' := W) hb)
  have hc0 := cell_new w (.slice a xs.length c) 29
  have HB0 := Lib.hid (below_alloc w (.cells #[.slice a xs.length c] 29))
  cases hm : (marksR xs i).2 with
  | false =>
    have HL : Hid (akL xs i = []) := Lib.hid (if_neg (by rw [hm]; simp))
    rw [HL.out]
    rw [hm] at F
    clear h hm HL
    go_enter Try.func45, Try.ntmps45
    go_wp2_with fail
    refine (F.out _ HB0.out).mono ?_
    rintro e w1 ⟨rfl, hb⟩
    have HB1 := Lib.hid (HB0.out.trans (hb.mono HB0.out.size))
    clear hb hc0
    go_wp2
    go_ret2
    exact seqOut_nothingA (HB1.out.alloc HB1.out.size _) _ _
  | true =>
    have HL : Hid (akL xs i = asked xs (atL xs i.toNat) (List.range xs.length)) := Lib.hid (if_pos hm)
    rw [HL.out]
    rw [hm] at F
    obtain ⟨ht, hi0, hi1, hx⟩ := marksR_at hm
    obtain ⟨k, rfl⟩ : ∃ k : Nat, i = (k : Int) := ⟨i.toNat, by omega⟩
    rw [Int.toNat_natCast]
    have HP := Lib.hid fun W hb => sAsked_any a b o c xs k W ht (by omega) (h.below (w' := W) hb)
    generalize asked xs (atL xs k) (List.range xs.length) = ps at HP ⊢
    clear h hm HL ht hi0 hi1 hx
    go_enter Try.func45, Try.ntmps45
    go_wp2_with fail
    refine (F.out _ HB0.out).mono ?_
    rintro e w1 ⟨rfl, hb⟩
    have HB1 := Lib.hid (HB0.out.trans (hb.mono HB0.out.size))
    have hc1 := cell_belowB hb hc0
    clear hb hc0
    go_wp2_with fail
    refine (HP.out w1 HB1.out).mono ?_
    rintro e w3 ⟨a3, c3, rfl, hrow, hb⟩
    have HB3 := Lib.hid (HB1.out.trans (hb.mono HB1.out.size))
    have HS := Lib.hid (seqOut_rowB hrow HB1.out.size HB3.out)
    clear hb hrow
    go_wp2
    go_ret2
    exact HS.out
theorem askedFor_both (xs : List ByteArray) (i : Int) (hl : xs.length ≤ 1048576) (ht : ∀ x ∈ xs, x.size ≤ 1048576) (_ : (Lit.int .i64 i).wf = true) : ∃ (l : List Nat) (R1 : Bool), l.length ≤ 1048576 ∧
    Hid (∀ W a b o c, ListIn W a b o xs → Calls Try.prog 45 #[.agg #[.slice a xs.length c], .int .i64 i] W (SeqOut (ints l) l.length R1 W)) ∧
    Hid (∀ W a b o c, ListIn W a b o xs → Calls Try.prog 46 #[.agg #[.slice a xs.length c], .int .i64 i] W (SeqOut (ints l) l.length R1 W)) :=
  ⟨_, _, Nat.le_trans (ak_le xs i) hl, fun W a b o c h => sAskedFor_any a b o c xs i W h, fun W a b o c h => askedFor_any a b o c xs i W h⟩
end Go.Proofs.Ythkafalpjokfeaa
