/-
  ShortestReading and LongestReading of the program. Used by the claims on chapter 3.
-/
import Derived.Test.YtekgmdigchobbaaBestW
import Derived.Test.YtekgmdigchobbaaReadW
namespace Go.Proofs.Ytekgmdigchobbaa
open Go.RowKit
set_option linter.unusedVariables false

structure Seen (m : Bool) (xs : List ByteArray) (s : ByteArray) (C g : Nat) (w : World) : Prop where
  c : w.cell? ⟨C, 0, none⟩ = some (.slice (some ⟨g, 0, none⟩) (s.size + 1) (s.size + 1))
  row : w.rowIs g 3 (s.size + 1) (fun j => .int .i64 (bestAt m xs s j))

set_option maxHeartbeats 4000000 in
theorem seen_any (m : Bool) {xs : List ByteArray} (ht : tableB xs = true) {s : ByteArray} (h40 : s.size ≤ 40) (C g K : Nat) : ∀ (st : Unit) (p t : Nat) (w : World), Seen m xs s C g w → p ≤ t → t ≤ s.size →
    Calls Try.prog 139 (#[.int .i64 (p : Int), .int .i64 (t : Int)] ++ #[.pointer (some ⟨C, 0, none⟩)]) w fun e w' => e = .returned (.bool ((tkB m xs s).yes st p t)) ∧ Seen m xs s C g w' ∧ w.grownBy w' (some K) := by
  intro st p t w hS hpt hts
  have key : Calls Try.prog 139 #[.int .i64 (p : Int), .int .i64 (t : Int), .pointer (some ⟨C, 0, none⟩)] w fun e w' => e = .returned (.bool ((tkB m xs s).yes st p t)) ∧ ∃ q, w' = w.drewN q := by
    have d1 := hS.c
    have d2 := hS.row.cell (i := t) (by omega)
    have d3 := hS.row.cell (i := p) (by omega)
    have b1 := bestAt_in m ht s t hts h40
    have b2 := bestAt_in m ht s p (by omega) h40
    have HY : Hid ((tkB m xs s).yes st p t = decide (bestAt m xs s t ≠ -1 ∧ bestAt m xs s p = bestAt m xs s t + 1)) := Lib.hid rfl
    rw [HY.out]
    clear HY hS
    have i0 : (0 : Int) ≤ (t : Int) := by omega
    have i1 : (t : Int) < (s.size : Int) + 1 := by omega
    have i2 : (0 : Int) ≤ (p : Int) := by omega
    have i3 : (p : Int) < (s.size : Int) + 1 := by omega
    generalize bestAt m xs s t = y1 at d2 b1
    generalize bestAt m xs s p = y2 at d3 b2
    clear ht
    by_cases h1 : y1 = -1
    · subst h1
      have HR : Hid (decide ((-1 : Int) ≠ -1 ∧ y2 = -1 + 1) = false) := Lib.hid (decide_eq_false (fun h => h.1 rfl))
      rw [HR.out]
      go_enter Try.func139, Try.ntmps139
      go_wp2
      go_quiet (fail)
      go_wp2
      go_ret
      exact ⟨rfl, _, rfl⟩
    · have h2 : (y1 == -1) = false := beq_false_of_ne h1
      have h5 : (y1 != -1) = true := by rw [bne, h2]; rfl
      have w1 : IntKind.i64.wrap (y1 + 1) = y1 + 1 := by rw [IntKind.wrap_i64]; omega
      by_cases h3 : y2 = y1 + 1
      · have HR : Hid (decide (y1 ≠ -1 ∧ y2 = y1 + 1) = true) := Lib.hid (decide_eq_true ⟨h1, h3⟩)
        rw [HR.out]
        have h4 : (y2 == y1 + 1) = true := by rw [h3]; exact beq_self_eq_true _
        clear h3
        go_enter Try.func139, Try.ntmps139
        go_wp2
        go_quiet (fail)
        go_wp2
        go_ret
        exact ⟨rfl, _, rfl⟩
      · have HR : Hid (decide (y1 ≠ -1 ∧ y2 = y1 + 1) = false) := Lib.hid (decide_eq_false (fun h => h3 h.2))
        rw [HR.out]
        have h4 : (y2 == y1 + 1) = false := beq_false_of_ne h3
        go_enter Try.func139, Try.ntmps139
        go_wp2
        go_quiet (fail)
        go_wp2
        go_ret
        exact ⟨rfl, _, rfl⟩
  refine key.mono ?_
  rintro e w' ⟨he, q, rfl⟩
  exact ⟨he, ⟨hS.c, hS.row⟩, ⟨rfl, rfl, rfl, Nat.le_refl _, fun _ _ _ => rfl⟩⟩
theorem seen_holds {m : Bool} {xs : List ByteArray} {s : ByteArray} {C g n : Nat} (hC : C < n) (hg : g < n) : Holds0 n (fun (_ : Unit) W => Seen m xs s C g W) := by
  intro k W W' h hb
  obtain ⟨c, h1, h2, h3⟩ := h.row
  exact ⟨(World.cell?_of_block (a := ⟨C, 0, none⟩) (hb C hC)).trans h.c, c, (hb g hg).trans h1, h2, h3⟩
theorem enter_bt (A : Array Value) (W : World) : Sem.run Try.prog (callFunc 139 A) W = .ok (.enter 139 A) W :=
  enter_any (f := 139) Try.func139 (by rfl) (by rfl) A W
theorem enter_less (A : Array Value) (W : World) : Sem.run Try.prog (callFunc 115 A) W = .ok (.enter 115 A) W :=
  enter_any (f := 115) Try.func115 (by rfl) (by rfl) A W
theorem enter_more (A : Array Value) (W : World) : Sem.run Try.prog (callFunc 116 A) W = .ok (.enter 116 A) W :=
  enter_any (f := 116) Try.func116 (by rfl) (by rfl) A W
theorem less_any (u v : Int) (w : World) : Calls Try.prog 115 (#[.int .i64 u, .int .i64 v] ++ #[]) w fun e w' => e = .returned (.bool (btr false u v)) ∧ w' = w := by
  have key : Calls Try.prog 115 #[.int .i64 u, .int .i64 v] w fun e w' => e = .returned (.bool (btr false u v)) ∧ w' = w := by
    go_enter Try.func115, Try.ntmps115
    go_wp2
    go_ret
    exact ⟨rfl, rfl⟩
  exact key
theorem more_any (u v : Int) (w : World) : Calls Try.prog 116 (#[.int .i64 u, .int .i64 v] ++ #[]) w fun e w' => e = .returned (.bool (btr true u v)) ∧ w' = w := by
  have key : Calls Try.prog 116 #[.int .i64 u, .int .i64 v] w fun e w' => e = .returned (.bool (btr true u v)) ∧ w' = w := by
    go_enter Try.func116, Try.ntmps116
    go_wp2
    go_ret
    exact ⟨rfl, rfl⟩
  exact key

set_option maxHeartbeats 4000000 in
set_option maxRecDepth 8000 in
theorem bestReading_any (m : Bool) (F : Nat) (hE : ∀ A W, Sem.run Try.prog (callFunc F A) W = .ok (.enter F A) W)
    (hF : ∀ (u v : Int) (W : World), Calls Try.prog F (#[.int .i64 u, .int .i64 v] ++ #[]) W fun e w' => e = .returned (.bool (btr m u v)) ∧ w' = W) (a : Option Addr) (b o c : Nat) (xs : List ByteArray) (s : ByteArray) (w : World) (h : ListIn w a b o xs) (hs : s.size ≤ maxLen) :
    Calls Try.prog 114 #[.agg #[.slice a xs.length c], .string s, .func (.func F) #[] #[]] w fun e w' => e = .returned (.tuple #[.string (bestR m xs s).1, .bool (bestR m xs s).2]) ∧ Below w.heap.size w w' := by
  have hl := h.len
  have FT := Lib.hid fun W hb => isTable_any a b o c xs W (h.below (w' := W) hb)
  have FB := Lib.hid fun w => isBare_any s w hs
  have HS := Lib.hid h
  clear h
  by_cases ht : tableB xs = true
  · have F2 := Lib.hid fun W hb => val_eq (v' := .bool true) (FT.out W hb) (by rw [ht])
    by_cases hbr : bareT s = true
    · have h40 := bare_le hbr
      have G2 := Lib.hid fun w => val_eq (v' := .bool true) (FB.out w) (by rw [hbr])
      have HR : Hid (bestR m xs s = outG (rdG (tkB m xs s) xs s s.size () 0)) := Lib.hid (if_pos (goodB_iff.2 ⟨ht, hbr⟩))
      have G := Lib.hid fun W hb => best_any m F hE hF a b o c xs s W (HS.out.below (w' := W) hb) ht h40
      have HT := Lib.hid ht
      rw [HR.out]
      clear ht FT FB hbr hF hE
      go_enter Try.func114, Try.ntmps114
      go_wp2_with fail
      refine (F2.out _ (below_alloc _ _)).mono ?_
      rintro e w1 ⟨rfl, hb⟩
      have hc1 : w1.cell? ⟨w.heap.size, 0, none⟩ = some (.slice a xs.length c) := (hb.cell (p := ⟨w.heap.size, 0, none⟩) (by simp)).trans (cell_new _ _ _)
      have HB := Lib.hid ((below_alloc w (.cells #[.slice a xs.length c] 26)).trans (hb.mono (by simp)))
      clear hb
      go_wp2_with fail
      refine (G2.out _).mono ?_
      rintro e w2 ⟨rfl, hb⟩
      have hc2 := (hb.cell (p := ⟨w.heap.size, 0, none⟩) (World.block_lt_of_cell? _ _ hc1)).trans hc1
      have HB2 := Lib.hid (HB.out.trans (hb.mono HB.out.size))
      clear hb hc1
      go_wp2_with fail
      refine (G.out _ HB2.out).mono ?_
      rintro e w3 ⟨g, rfl, hg, hrow, hb⟩
      have hsz3 := hb.size
      have hc3 : (w3.alloc (.cells #[.slice (some ⟨g, 0, none⟩) (s.size + 1) (s.size + 1)] 56)).cell? ⟨w.heap.size, 0, none⟩ = some (.slice a xs.length c) := (keep_cell _ _ ((hb.cell (p := ⟨w.heap.size, 0, none⟩) (World.block_lt_of_cell? _ _ hc2)).trans hc2))
      have HB3 := Lib.hid ((HB2.out.trans (hb.mono HB2.out.size)).alloc (Nat.le_trans HB2.out.size hsz3) (.cells #[.slice (some ⟨g, 0, none⟩) (s.size + 1) (s.size + 1)] 56))
      have HL3 : Hid (Seen m xs s w3.heap.size g (w3.alloc (.cells #[.slice (some ⟨g, 0, none⟩) (s.size + 1) (s.size + 1)] 56))) := Lib.hid ⟨cell_new _ _ _, rowIs_below hrow (below_alloc _ _)⟩
      have HGl := Lib.hid (And.intro hg hrow.lt)
      have HSz := Lib.hid (Nat.le_trans HB2.out.size hsz3)
      have HSw := Lib.hid HB2.out.size
      clear hb hrow hg hc2
      go_wp2_with fail
      have hRB := readBy_gen (tkB m xs s) (fun (_ : Unit) W => Seen m xs s w3.heap.size g W) 139 w.heap.size g #[.pointer (some ⟨w3.heap.size, 0, none⟩)] () a b o c xs s _ (fun W hW => HS.out.below (HB3.out.trans hW)) HT.out h40 HL3.out (seen_holds (by simp) (by have := HGl.out.2; simp; omega)) (by have := HSz.out; simp; omega) (by have := HGl.out.1; have := HSw.out; omega) (by have := HGl.out.2; simp; omega) enter_bt (seen_any m HT.out h40 _ g g)
      refine hRB.mono ?_
      rintro e w4 ⟨rfl, hb⟩
      have HB4 := Lib.hid (HB3.out.trans hb)
      clear hb hc3
      go_wp2
      go_ret2
      exact ⟨rfl, HB4.out⟩
    · have G2 := Lib.hid fun w => val_eq (v' := .bool false) (FB.out w) (by simp [hbr])
      have HR : Hid (bestR m xs s = (⟨#[]⟩, false)) := Lib.hid (if_neg (fun h => hbr (goodB_iff.1 h).2))
      rw [HR.out]
      clear ht FT FB hbr hF hE
      go_enter Try.func114, Try.ntmps114
      go_wp2_with fail
      refine (F2.out _ (below_alloc _ _)).mono ?_
      rintro e w1 ⟨rfl, hb⟩
      have HB := Lib.hid ((below_alloc w (.cells #[.slice a xs.length c] 26)).trans (hb.mono (by simp)))
      clear hb
      go_wp2_with fail
      refine (G2.out _).mono ?_
      rintro e w2 ⟨rfl, hb⟩
      have HB2 := Lib.hid (HB.out.trans (hb.mono HB.out.size))
      clear hb
      go_wp2
      go_ret2
      exact ⟨rfl, HB2.out⟩
  · have F2 := Lib.hid fun W hb => val_eq (v' := .bool false) (FT.out W hb) (by simp [ht])
    have HR : Hid (bestR m xs s = (⟨#[]⟩, false)) := Lib.hid (if_neg (fun h => ht (goodB_iff.1 h).1))
    rw [HR.out]
    clear ht FT FB hF hE
    go_enter Try.func114, Try.ntmps114
    go_wp2_with fail
    refine (F2.out _ (below_alloc _ _)).mono ?_
    rintro e w1 ⟨rfl, hb⟩
    have HB := Lib.hid ((below_alloc w (.cells #[.slice a xs.length c] 26)).trans (hb.mono (by simp)))
    clear hb
    go_wp2
    go_ret2
    exact ⟨rfl, HB.out⟩

set_option maxRecDepth 8000 in
theorem less_prog (a : Option Addr) (b o c : Nat) (xs : List ByteArray) (s : ByteArray) (w : World) (h : ListIn w a b o xs) (hs : s.size ≤ maxLen) :
    Calls Try.prog 53 #[.agg #[.slice a xs.length c], .string s] w fun e w' => e = .returned (.tuple #[.string (bestR false xs s).1, .bool (bestR false xs s).2]) ∧ Below w.heap.size w w' := by
  have hl := h.len
  have G := Lib.hid fun W hb => bestReading_any false 115 enter_less less_any a b o c xs s W (h.below (w' := W) hb) hs
  clear h
  generalize bestR false xs s = R at G
  go_enter Try.func53, Try.ntmps53
  go_wp2_with fail
  refine (G.out _ (below_alloc _ _)).mono ?_
  rintro e w1 ⟨rfl, hb⟩
  have HB := Lib.hid ((below_alloc w (.cells #[.slice a xs.length c] 26)).trans (hb.mono (by simp)))
  clear hb
  go_wp2
  go_ret2
  exact ⟨rfl, HB.out⟩

set_option maxRecDepth 8000 in
theorem more_prog (a : Option Addr) (b o c : Nat) (xs : List ByteArray) (s : ByteArray) (w : World) (h : ListIn w a b o xs) (hs : s.size ≤ maxLen) :
    Calls Try.prog 55 #[.agg #[.slice a xs.length c], .string s] w fun e w' => e = .returned (.tuple #[.string (bestR true xs s).1, .bool (bestR true xs s).2]) ∧ Below w.heap.size w w' := by
  have hl := h.len
  have G := Lib.hid fun W hb => bestReading_any true 116 enter_more more_any a b o c xs s W (h.below (w' := W) hb) hs
  clear h
  generalize bestR true xs s = R at G
  go_enter Try.func55, Try.ntmps55
  go_wp2_with fail
  refine (G.out _ (below_alloc _ _)).mono ?_
  rintro e w1 ⟨rfl, hb⟩
  have HB := Lib.hid ((below_alloc w (.cells #[.slice a xs.length c] 26)).trans (hb.mono (by simp)))
  clear hb
  go_wp2
  go_ret2
  exact ⟨rfl, HB.out⟩
end Go.Proofs.Ytekgmdigchobbaa
