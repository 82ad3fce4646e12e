/-
  CertainBorders, the program's and the model's: both answer alike. Used by the claims on chapter 3.
-/
import Derived.Test.YtekgmdigchobbaaPlaceC
import Derived.Test.YtekgmdigchobbaaPlaceS
namespace Go.Proofs.Ytekgmdigchobbaa
open Go.RowKit
set_option linter.unusedVariables false

theorem sCertainBorders_any (a : Option Addr) (b o c : Nat) (xs : List ByteArray) (s : ByteArray) (w : World) (h : ListIn w a b o xs) (hs : s.size ≤ maxLen) :
    Calls Try.prog 62 #[.agg #[.slice a xs.length c], .string s] w (SeqOut (ints (placesR xs s true).1) (placesR xs s true).1.length (placesR xs s true).2 w) := by
  have hl := h.len
  have F := Lib.hid fun W hb => sGood_any a b o c xs s W (h.below (w' := W) hb) hs
  have HS := Lib.hid h
  clear h
  by_cases hg : goodB xs s = true
  · obtain ⟨ht, hbr⟩ := goodB_iff.1 hg
    have h40 := bare_le hbr
    have F2 := Lib.hid fun W hb => val_eq (v' := .bool true) (F.out W hb) (by rw [hg])
    have G := Lib.hid fun W hb => sPlaces_any true a b o c xs s W (HS.out.below (w' := W) hb) ht h40
    have HR : Hid (placesR xs s true = (placesL xs s true (s.size + 1), true)) := Lib.hid (if_pos hg)
    rw [HR.out]
    generalize placesL xs s true (s.size + 1) = pl at G
    clear hg ht hbr F
    go_enter Try.func62, Try.ntmps62
    go_wp2_with fail
    refine (F2.out _ (below_alloc _ _)).mono ?_
    rintro e w1 ⟨rfl, hb⟩
    have hc1 : w1.cell? ⟨w.heap.size, 0, none⟩ = some (.slice a xs.length c) := (hb.cell (p := ⟨w.heap.size, 0, none⟩) (by simp)).trans (cell_new _ _ _)
    have HB := Lib.hid ((below_alloc w (.cells #[.slice a xs.length c] 26)).trans (hb.mono (by simp)))
    clear hb
    go_wp2_with fail
    refine (G.out _ HB.out).mono ?_
    rintro e w2 ⟨⟨a2, g2, c2, rfl, k1, k2, k3⟩, hb⟩
    have HB2 := Lib.hid (HB.out.trans (hb.mono HB.out.size))
    have HK := Lib.hid (And.intro k1 (And.intro k2 k3))
    clear hb k1 k2 k3
    go_wp2
    go_ret2
    exact ⟨a2, g2, c2, rfl, HK.out.1, fun h => Nat.le_trans HB.out.size (HK.out.2.1 h), HK.out.2.2, HB2.out⟩
  · have F2 := Lib.hid fun W hb => val_eq (v' := .bool false) (F.out W hb) (by simp [hg])
    have HR : Hid (placesR xs s true = ([], false)) := Lib.hid (if_neg hg)
    rw [HR.out]
    clear hg F
    go_enter Try.func62, Try.ntmps62
    go_wp2_with fail
    refine (F2.out _ (below_alloc _ _)).mono ?_
    rintro e w1 ⟨rfl, hb⟩
    have hc1 : w1.cell? ⟨w.heap.size, 0, none⟩ = some (.slice a xs.length c) := (hb.cell (p := ⟨w.heap.size, 0, none⟩) (by simp)).trans (cell_new _ _ _)
    have HB := Lib.hid ((below_alloc w (.cells #[.slice a xs.length c] 26)).trans (hb.mono (by simp)))
    clear hb
    go_wp2
    go_ret2
    exact ⟨_, w.heap.size, _, rfl, ⟨fun h => by simp [ints] at h, fun j x hx => by simp [ints] at hx⟩, fun h => by simp [ints] at h, fun j hj => by simp [ints] at hj, HB.out.alloc HB.out.size _⟩

theorem certainBorders_any (a : Option Addr) (b o c : Nat) (xs : List ByteArray) (s : ByteArray) (w : World) (h : ListIn w a b o xs) (hs : s.size ≤ maxLen) :
    Calls Try.prog 63 #[.agg #[.slice a xs.length c], .string s] w (SeqOut (ints (placesR xs s true).1) (placesR xs s true).1.length (placesR xs s true).2 w) := by
  have hl := h.len
  have G := Lib.hid fun W hb => whereC_any a b o c xs s W (h.below (w' := W) hb) hs
  clear h
  obtain ⟨r, hr⟩ : ∃ r, r = placesR xs s true := ⟨_, rfl⟩
  rw [← hr] at G
  rw [← hr]
  clear hr
  go_enter Try.func63, Try.ntmps63
  go_wp2_with fail
  refine (G.out _ (below_alloc _ _)).mono ?_
  rintro e w2 ⟨a2, g2, c2, rfl, k1, k2, k3, hb⟩
  have HB2 := Lib.hid ((below_alloc w (.cells #[.slice a xs.length c] 26)).trans (hb.mono (by simp)))
  have HK := Lib.hid (And.intro k1 (And.intro k2 k3))
  clear hb k1 k2 k3
  go_wp2
  go_ret2
  exact ⟨a2, g2, c2, rfl, HK.out.1, fun h => Nat.le_trans (by simp) (HK.out.2.1 h), HK.out.2.2, HB2.out⟩

theorem certainBorders_both (xs : List ByteArray) (s : ByteArray) (hl : xs.length ≤ 1048576) (ht : ∀ x ∈ xs, x.size ≤ 1048576) (hs : s.size ≤ 1048576) : ∃ (l : List Nat) (R1 : Bool), l.length ≤ 1048576 ∧
    Hid (∀ W a b o c, ListIn W a b o xs → Calls Try.prog 62 #[.agg #[.slice a xs.length c], .string s] W (SeqOut (ints l) l.length R1 W)) ∧
    Hid (∀ W a b o c, ListIn W a b o xs → Calls Try.prog 63 #[.agg #[.slice a xs.length c], .string s] W (SeqOut (ints l) l.length R1 W)) :=
  ⟨_, _, by
    unfold placesR
    by_cases h : goodB xs s = true
    · rw [if_pos h]; have := placesL_le xs s true (s.size + 1); have := bare_le (goodB_iff.1 h).2; show (placesL xs s true (s.size + 1)).length ≤ _; omega
    · rw [if_neg h]; simp, fun W a b o c h => sCertainBorders_any a b o c xs s W h (by unfold maxLen; omega), fun W a b o c h => certainBorders_any a b o c xs s W h (by unfold maxLen; omega)⟩
end Go.Proofs.Ytekgmdigchobbaa
