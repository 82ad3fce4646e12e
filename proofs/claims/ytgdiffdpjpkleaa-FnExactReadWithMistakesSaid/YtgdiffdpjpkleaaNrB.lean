/-
  NearestLetters, the model's and the program's: both answer alike. Used by the claims on chapter 6.
-/
import Derived.Test.YtgdiffdpjpkleaaNrS
namespace Go.Proofs.Ytgdiffdpjpkleaa
open Go.RowKit Go.Maps
set_option linter.unusedVariables false

/-- How a function ends that answers with a slice of n elements, a number and a bool. -/
def SeqOut3 (vs : List Value) (n : Nat) (z : Int) (ok : Bool) (W : World) (e : Ending) (W' : World) : Prop :=
  ∃ a g c, e = .returned (.tuple #[.slice a n c, .int .i64 z, .bool ok]) ∧ SrcV W' a g vs ∧ (0 < vs.length → W.heap.size ≤ g) ∧ (∀ j, j < vs.length → W'.frozen? ⟨g, j, none⟩ = false) ∧ Below W.heap.size W W'
theorem seqOut3_none {W W' : World} (hb : Below W.heap.size W W') (a : Option Addr) (c : Nat) : SeqOut3 [] 0 0 false W (.returned (.tuple #[.slice a 0 c, .int .i64 0, .bool false])) W' :=
  ⟨a, W.heap.size, c, rfl, ⟨fun h => by simp at h, fun j x hx => by simp at hx⟩, fun h => by simp at h, fun j hj => by simp at hj, hb⟩
theorem seqOut3_row {W W' : World} {base : Nat} {e : TypeId} {size : Nat} {v : Value} {n : Nat} {vs : List Value} {z : Int} (h : W'.ownsRow base e size v n vs) (hw : W.heap.size ≤ base) (hb : Below W.heap.size W W') : SeqOut3 vs n z true W (.returned (.tuple #[v, .int .i64 z, .bool true])) W' := by
  obtain ⟨a, g, c, rfl, hs, hg, hf⟩ := seq_of_row h
  exact ⟨a, g, c, rfl, hs, fun h => Nat.le_trans hw (hg h), hf, hb⟩
def nearOk (xs : List ByteArray) (s : ByteArray) : Bool := tableB xs && noneT s
def nearLs (xs : List ByteArray) (s : ByteArray) : List Nat := if nearOk xs s = true then nearOn (farB xs s) (List.range xs.length) else []
def nearZ (xs : List ByteArray) (s : ByteArray) : Int := if nearOk xs s = true then (minOn (farB xs s) (List.range xs.length) : Int) else 0
theorem nearLs_le (xs : List ByteArray) (s : ByteArray) : (nearLs xs s).length ≤ xs.length := by
  unfold nearLs
  split
  · have := nearOn_le (farB xs s) (List.range xs.length); rwa [List.length_range] at this
  · simp
theorem range_ne {n : Nat} (h : 1 ≤ n) : List.range n ≠ [] := List.ne_nil_of_mem (a := 0) (List.mem_range.2 (by omega))

set_option maxHeartbeats 2000000 in
theorem sNearestLetters_any (a : Option Addr) (b o c : Nat) (xs : List ByteArray) (s : ByteArray) (w : World) (h : ListIn w a b o xs) (hs : s.size ≤ 1048576) :
    Calls Try.prog 21 #[.agg #[.slice a xs.length c], .string s] w (SeqOut3 (ints (nearLs xs s)) (nearLs xs s).length (nearZ xs s) (nearOk xs s) w) := by
  have hl := h.len
  have F := Lib.hid fun W hb => stable_any a b o c xs W (h.below (w' := W) hb)
  have HS := Lib.hid h
  have hs' : s.size ≤ maxLen := by unfold maxLen; omega
  clear h
  by_cases ht : tableB xs = true
  · have F2 := Lib.hid fun W hb => val_eq (v' := .bool true) (F.out W hb) (by rw [ht])
    by_cases hm : noneT s = true
    · have G2 := Lib.hid fun W => val_draw (snone_any s W hs') hm
      have h5 := noneT_size hm
      have E := Lib.hid fun W hb => sNearest_any a b o c xs s W (HS.out.below (w' := W) hb) ht h5
      have HR : Hid (nearOk xs s = true) := Lib.hid (by unfold nearOk; rw [ht, hm]; rfl)
      have HL : Hid (nearLs xs s = nearOn (farB xs s) (List.range xs.length)) := Lib.hid (if_pos HR.out)
      have HZ : Hid (nearZ xs s = (minOn (farB xs s) (List.range xs.length) : Int)) := Lib.hid (if_pos HR.out)
      rw [HR.out, HL.out, HZ.out]
      clear ht hm F h5 hs'
      go_enter Try.func21, Try.ntmps21
      go_wp2_with fail
      refine (F2.out _ (below_alloc _ _)).mono ?_
      rintro e w1 ⟨rfl, hb⟩
      have hc1 : w1.cell? ⟨w.heap.size, 0, none⟩ = some (.slice a xs.length c) := (hb.cell (p := ⟨w.heap.size, 0, none⟩) (by simp)).trans (cell_new _ _ _)
      have HB := Lib.hid ((below_alloc w (.cells #[.slice a xs.length c] 32)).trans (hb.mono (by simp)))
      clear hb
      go_wp2_with fail
      refine (G2.out _).mono ?_
      rintro e w2 ⟨rfl, q2, rfl⟩
      have hc2 : (w1.drewN q2).cell? ⟨w.heap.size, 0, none⟩ = some (.slice a xs.length c) := hc1
      have HB2 : Hid (Below w.heap.size w (w1.drewN q2)) := Lib.hid (below_drewN' HB.out)
      go_wp2_with fail
      refine (E.out _ HB2.out).mono ?_
      rintro e w3 ⟨v, rfl, hrow, hb⟩
      have HB3 := Lib.hid (HB2.out.trans (hb.mono HB2.out.size))
      have HRw := Lib.hid hrow
      have HBl : Hid (w.heap.size ≤ (w1.drewN q2).heap.size) := Lib.hid HB2.out.size
      clear hb hrow
      go_wp2
      go_ret3
      exact seqOut3_row HRw.out HBl.out HB3.out
    · have G2 := Lib.hid fun W => val_draw (snone_any s W hs') (show noneT s = false by simpa using hm)
      have HR : Hid (nearOk xs s = false) := Lib.hid (by unfold nearOk; rw [ht]; simpa using hm)
      have HL : Hid (nearLs xs s = []) := Lib.hid (if_neg (by rw [HR.out]; simp))
      have HZ : Hid (nearZ xs s = 0) := Lib.hid (if_neg (by rw [HR.out]; simp))
      rw [HR.out, HL.out, HZ.out]
      clear ht hm F hs'
      go_enter Try.func21, Try.ntmps21
      go_wp2_with fail
      refine (F2.out _ (below_alloc _ _)).mono ?_
      rintro e w1 ⟨rfl, hb⟩
      have hc1 : w1.cell? ⟨w.heap.size, 0, none⟩ = some (.slice a xs.length c) := (hb.cell (p := ⟨w.heap.size, 0, none⟩) (by simp)).trans (cell_new _ _ _)
      have HB := Lib.hid ((below_alloc w (.cells #[.slice a xs.length c] 32)).trans (hb.mono (by simp)))
      clear hb
      go_wp2_with fail
      refine (G2.out _).mono ?_
      rintro e w2 ⟨rfl, q2, rfl⟩
      have HB3 : Below w.heap.size w (w1.drewN q2) := below_drewN' HB.out
      go_wp2
      go_ret3
      exact seqOut3_none (HB3.alloc HB3.size _) _ _
  · have F2 := Lib.hid fun W hb => val_eq (v' := .bool false) (F.out W hb) (by simp [ht])
    have HR : Hid (nearOk xs s = false) := Lib.hid (by unfold nearOk; simp [ht])
    have HL : Hid (nearLs xs s = []) := Lib.hid (if_neg (by rw [HR.out]; simp))
    have HZ : Hid (nearZ xs s = 0) := Lib.hid (if_neg (by rw [HR.out]; simp))
    rw [HR.out, HL.out, HZ.out]
    clear ht F hs'
    go_enter Try.func21, Try.ntmps21
    go_wp2_with fail
    refine (F2.out _ (below_alloc _ _)).mono ?_
    rintro e w1 ⟨rfl, hb⟩
    have HB := Lib.hid ((below_alloc w (.cells #[.slice a xs.length c] 32)).trans (hb.mono (by simp)))
    clear hb
    go_wp2
    go_ret3
    exact seqOut3_none (HB.out.alloc HB.out.size _) _ _

set_option maxHeartbeats 2000000 in
theorem nearest_any (a : Option Addr) (b o c : Nat) (xs : List ByteArray) (s : ByteArray) (w : World) (h : ListIn w a b o xs) (hs : s.size ≤ 1048576) :
    Calls Try.prog 23 #[.agg #[.slice a xs.length c], .string s] w (SeqOut3 (ints (nearLs xs s)) (nearLs xs s).length (nearZ xs s) (nearOk xs s) w) := by
  have hl := h.len
  have F := Lib.hid fun W hb => isTable_any a b o c xs W (h.below (w' := W) hb)
  have HS := Lib.hid h
  have hs' : s.size ≤ maxLen := by unfold maxLen; omega
  clear h
  by_cases ht : tableB xs = true
  · have F2 := Lib.hid fun W hb => val_eq (v' := .bool true) (F.out W hb) (by rw [ht])
    by_cases hm : noneT s = true
    · have G2 := Lib.hid fun W => val_both (none_any s W hs') hm
      have h5 := noneT_size hm
      have E := Lib.hid fun W hb => byDistance_any a b o c xs s W (HS.out.below (w' := W) hb) (marks5 ht) (table_le ht).2 h5
      have HR : Hid (nearOk xs s = true) := Lib.hid (by unfold nearOk; rw [ht, hm]; rfl)
      have HL : Hid (nearLs xs s = nearOn (farB xs s) (List.range xs.length)) := Lib.hid (if_pos HR.out)
      have HZ : Hid (nearZ xs s = (minOn (farB xs s) (List.range xs.length) : Int)) := Lib.hid (if_pos HR.out)
      have H0 := range_ne (table_le ht).1
      have H5 : ∀ p ∈ List.range xs.length, farB xs s p ≤ 5 := fun p hp => farB_le (marks5 ht) h5 (List.mem_range.1 hp)
      have HMn := Lib.hid (minOn_le5 H0 H5)
      have HNe := Lib.hid (byOn_min H0 H5)
      clear H0 H5
      rw [HR.out, HL.out, HZ.out]
      clear ht hm F h5 hs'
      go_enter Try.func23, Try.ntmps23
      go_wp2_with fail
      refine (F2.out _ (below_alloc _ _)).mono ?_
      rintro e w1 ⟨rfl, hb⟩
      have hc1 : w1.cell? ⟨w.heap.size, 0, none⟩ = some (.slice a xs.length c) := (hb.cell (p := ⟨w.heap.size, 0, none⟩) (by simp)).trans (cell_new _ _ _)
      have HB := Lib.hid ((below_alloc w (.cells #[.slice a xs.length c] 32)).trans (hb.mono (by simp)))
      clear hb
      go_wp2_with fail
      refine (G2.out _).mono ?_
      rintro e w2 ⟨rfl, hb⟩
      have hc2 := (hb.cell (World.block_lt_of_cell? _ _ hc1)).trans hc1
      have HB2 := Lib.hid (HB.out.trans (hb.mono HB.out.size))
      clear hb hc1
      go_wp2_with fail
      refine (E.out _ HB2.out).mono ?_
      rintro e w3 ⟨B, D, sv, rfl, hB, hG, hb⟩
      have HB3 := Lib.hid (HB2.out.trans (hb.mono HB2.out.size))
      have HBl : Hid (w.heap.size ≤ B + 1) := Lib.hid (by have := HB2.out.size; omega)
      have HGr := Lib.hid (hG.row (minOn (farB xs s) (List.range xs.length)))
      have HLo := Lib.hid (fun W hW => leastOfI_any W B (B + 1) 3 1 ints (fun d => byOn (farB xs s) d (List.range xs.length)) xs.length D sv (minOn (farB xs s) (List.range xs.length)) (hG.kept (w' := W) hW) HMn.out HNe.out (fun d hd => byOn_below hd))
      clear hb hG hB
      go_wp2_with fail
      refine (HLo.out _ (Below.refl _ _)).mono ?_
      rintro e w4 ⟨rfl, hww⟩
      obtain rfl := hww.symm
      go_wp2
      go_ret3
      exact seqOut3_row HGr.out HBl.out HB3.out
    · have G2 := Lib.hid fun W => val_both (none_any s W hs') (show noneT s = false by simpa using hm)
      have HR : Hid (nearOk xs s = false) := Lib.hid (by unfold nearOk; rw [ht]; simpa using hm)
      have HL : Hid (nearLs xs s = []) := Lib.hid (if_neg (by rw [HR.out]; simp))
      have HZ : Hid (nearZ xs s = 0) := Lib.hid (if_neg (by rw [HR.out]; simp))
      rw [HR.out, HL.out, HZ.out]
      clear ht hm F hs'
      go_enter Try.func23, Try.ntmps23
      go_wp2_with fail
      refine (F2.out _ (below_alloc _ _)).mono ?_
      rintro e w1 ⟨rfl, hb⟩
      have hc1 : w1.cell? ⟨w.heap.size, 0, none⟩ = some (.slice a xs.length c) := (hb.cell (p := ⟨w.heap.size, 0, none⟩) (by simp)).trans (cell_new _ _ _)
      have HB := Lib.hid ((below_alloc w (.cells #[.slice a xs.length c] 32)).trans (hb.mono (by simp)))
      clear hb
      go_wp2_with fail
      refine (G2.out _).mono ?_
      rintro e w2 ⟨rfl, hb⟩
      have HB3 : Below w.heap.size w w2 := HB.out.trans (hb.mono HB.out.size)
      clear hb
      go_wp2
      go_ret3
      exact seqOut3_none HB3 _ _
  · have F2 := Lib.hid fun W hb => val_eq (v' := .bool false) (F.out W hb) (by simp [ht])
    have HR : Hid (nearOk xs s = false) := Lib.hid (by unfold nearOk; simp [ht])
    have HL : Hid (nearLs xs s = []) := Lib.hid (if_neg (by rw [HR.out]; simp))
    have HZ : Hid (nearZ xs s = 0) := Lib.hid (if_neg (by rw [HR.out]; simp))
    rw [HR.out, HL.out, HZ.out]
    clear ht F hs'
    go_enter Try.func23, Try.ntmps23
    go_wp2_with fail
    refine (F2.out _ (below_alloc _ _)).mono ?_
    rintro e w1 ⟨rfl, hb⟩
    have HB := Lib.hid ((below_alloc w (.cells #[.slice a xs.length c] 32)).trans (hb.mono (by simp)))
    clear hb
    go_wp2
    go_ret3
    exact seqOut3_none HB.out _ _

theorem nearestLetters_both (xs : List ByteArray) (s : ByteArray) (hl : xs.length ≤ 1048576) (ht : ∀ x ∈ xs, x.size ≤ 1048576) (hs : s.size ≤ 1048576) : ∃ (l : List Nat) (z : Int) (R1 : Bool), l.length ≤ 1048576 ∧
    Hid (∀ W a b o c, ListIn W a b o xs → Calls Try.prog 21 #[.agg #[.slice a xs.length c], .string s] W (SeqOut3 (ints l) l.length z R1 W)) ∧
    Hid (∀ W a b o c, ListIn W a b o xs → Calls Try.prog 23 #[.agg #[.slice a xs.length c], .string s] W (SeqOut3 (ints l) l.length z R1 W)) :=
  ⟨_, _, _, Nat.le_trans (nearLs_le xs s) hl, fun W a b o c h => sNearestLetters_any a b o c xs s W h hs, fun W a b o c h => nearest_any a b o c xs s W h hs⟩
end Go.Proofs.Ytgdiffdpjpkleaa
