/-
  ReadingAt of the program; both answer alike. Used by the claims on chapter 3.
-/
import Derived.Test.YtekgmdigchobbaaReadW
namespace Go.Proofs.Ytekgmdigchobbaa
open Go.RowKit
set_option linter.unusedVariables false

def tkAt (xs : List ByteArray) (s : ByteArray) : Tk Nat := ⟨fun k p t => decide (k < wayAt xs s t), fun k p t => if k < wayAt xs s t then k else k - wayAt xs s t⟩
theorem scan_at {xs : List ByteArray} (ht : tableB xs = true) (s : ByteArray) {p k : Nat} (hp : p < s.size) (hk : k < wayAt xs s p) : ∀ g j, j + g = xs.length → wayPart xs s p j ≤ k →
    ∃ i x, xs[i]? = some x ∧ stands s x p = true ∧ wayPart xs s p i ≤ k ∧ k - wayPart xs s p i < wayAt xs s (p + x.size) ∧ scanG (tkAt xs s) s p (xs.drop j) j (k - wayPart xs s p j) = some (i, k - wayPart xs s p i, x.size)
  | 0, j, hj, h => by
    obtain rfl : j = xs.length := by omega
    rw [wayPart_all ht s p hp] at h; omega
  | g + 1, j, hj, h => by
    have hx := List.getElem?_eq_getElem (show j < xs.length by omega)
    generalize xs[j] = x at hx
    have hs := wayPart_succ xs s p j x hx
    cases hst : stands s x p with
    | false =>
      rw [hst] at hs
      have e : wayPart xs s p (j + 1) = wayPart xs s p j := by simpa using hs
      obtain ⟨i, y, h1, h2, h3, h4, h5⟩ := scan_at ht s hp hk g (j + 1) (by omega) (by omega)
      refine ⟨i, y, h1, h2, h3, h4, ?_⟩
      rw [scanG_off _ s p j _ hx hst, ← e]; exact h5
    | true =>
      rw [hst, if_pos rfl] at hs
      by_cases hy : k - wayPart xs s p j < wayAt xs s (p + x.size)
      · refine ⟨j, x, hx, hst, h, hy, ?_⟩
        rw [scanG_yes _ s p j _ hx hst (decide_eq_true hy)]
        simp only [tkAt, if_pos hy]
      · obtain ⟨i, y, h1, h2, h3, h4, h5⟩ := scan_at ht s hp hk g (j + 1) (by omega) (by omega)
        refine ⟨i, y, h1, h2, h3, h4, ?_⟩
        rw [scanG_no _ s p j _ hx hst (decide_eq_false hy)]
        simp only [tkAt, if_neg hy]
        rw [hs, ← Nat.sub_sub] at h5
        exact h5
theorem rd_at {xs : List ByteArray} (ht : tableB xs = true) (s : ByteArray) : ∀ (n p k : Nat), s.size ≤ n + p → p ≤ s.size → k < wayAt xs s p → rdG (tkAt xs s) xs s n k p = some (rdL xs s n p k)
  | 0, p, k, _, _, _ => rfl
  | n + 1, p, k, hn, hp, hk => by
    by_cases hlt : p < s.size
    · obtain ⟨i, x, h1, h2, h3, h4, h5⟩ := scan_at ht s hlt hk xs.length 0 (by omega) (by rw [wayPart_zero]; omega)
      rw [wayPart_zero, Nat.sub_zero, List.drop_zero] at h5
      have hx1 : 1 ≤ x.size := by
        have h6 := ((tableB_iff xs).1 ht).2.1 x (List.mem_of_getElem? h1)
        simp only [marksL, Bool.and_eq_true, decide_eq_true_eq, bl_len] at h6
        exact h6.1.1
      rw [rdG_some _ xs s n k hlt h5, rd_at ht s n (p + x.size) _ (by omega) (stands_le hp h2) h4, rdL_step hlt h1 h3 (take_facts h1 h3 h2 h4)]
      rfl
    · obtain rfl : p = s.size := by omega
      rw [rdG_end, rdL_end]

theorem enter_any {f : FuncId} {fn : Func} {c : Code} (hf : Try.prog.funcs[f]? = some fn) (hname : (fn.name == "runtime.NumGoroutine") = false) (hb : fn.body = some c) (A : Array Value) (W : World) :
    Sem.run Try.prog (callFunc f A) W = .ok (.enter f A) W := by
  have h1 : fn.name ≠ "runtime.NumGoroutine" := by simpa using hname
  simp [callFunc, hf, h1, hb]
theorem enter_at (A : Array Value) (W : World) : Sem.run Try.prog (callFunc 108 A) W = .ok (.enter 108 A) W :=
  enter_any (f := 108) Try.func108 (by rfl) (by rfl) A W

theorem left_step {xs : List ByteArray} {s : ByteArray} (ht : tableB xs = true) (h40 : s.size ≤ 40) {K C g : Nat} (hC : C ≠ K) (hg : g ≠ K) : ∀ (k p t : Nat) (W : World), (Left xs s K C g k W ∧ k ≤ 1099511627776) → p ≤ t → t ≤ s.size →
    Calls Try.prog 108 (#[.int .i64 (p : Int), .int .i64 (t : Int)] ++ #[.pointer (some ⟨K, 0, none⟩), .pointer (some ⟨C, 0, none⟩)]) W fun e w' => e = .returned (.bool ((tkAt xs s).yes k p t)) ∧ (Left xs s K C g ((tkAt xs s).nxt k p t) w' ∧ (tkAt xs s).nxt k p t ≤ 1099511627776) ∧ W.grownBy w' (some K) := by
  intro k p t W ⟨hL, hk⟩ hpt hts
  by_cases hy : k < wayAt xs s t
  · refine (test_yes xs s K C g k p t W hL hts h40 hy (wayAt_le ht s h40 t)).mono ?_
    rintro e w' ⟨rfl, q, rfl⟩
    have e1 : (tkAt xs s).yes k p t = true := decide_eq_true hy
    have e2 : (tkAt xs s).nxt k p t = k := if_pos hy
    rw [e1, e2]
    exact ⟨rfl, ⟨hL.drewN q, hk⟩, ⟨rfl, rfl, rfl, Nat.le_refl _, fun _ _ _ => rfl⟩⟩
  · refine (test_no xs s K C g k p t W hL hts h40 (by omega) hk).mono ?_
    rintro e w' ⟨rfl, q, rfl⟩
    have e1 : (tkAt xs s).yes k p t = false := decide_eq_false hy
    have e2 : (tkAt xs s).nxt k p t = k - wayAt xs s t := if_neg hy
    rw [e1, e2]
    have h1 := grown_set (a := W) (g := K) 0 (.int .i64 ((k - wayAt xs s t : Nat) : Int))
    exact ⟨rfl, ⟨(hL.set hC hg _).drewN q, by omega⟩, ⟨h1.os, h1.tape, h1.output, h1.size, h1.block⟩⟩
theorem left_holds {xs : List ByteArray} {s : ByteArray} {K C g n : Nat} (hK : K < n) (hC : C < n) (hg : g < n) : Holds0 n (fun k W => Left xs s K C g k W ∧ k ≤ 1099511627776) := by
  intro k W W' ⟨h, hk⟩ hb
  refine ⟨⟨(World.cell?_of_block (a := ⟨K, 0, none⟩) (hb K hK)).trans h.k, (World.frozen?_of_block (a := ⟨K, 0, none⟩) (hb K hK)).trans h.kf, (World.cell?_of_block (a := ⟨C, 0, none⟩) (hb C hC)).trans h.c, ?_⟩, hk⟩
  obtain ⟨c, h1, h2, h3⟩ := h.row
  exact ⟨c, (hb g hg).trans h1, h2, h3⟩
theorem frozen_keep {w w' : World} {a : Addr} (h : w.frozen? a = false) (hlt : a.block < w.heap.size) (hb : Below w.heap.size w w') : w'.frozen? a = false := (hb.frozen hlt).trans h

set_option maxHeartbeats 4000000 in
set_option maxRecDepth 8000 in
theorem read_any (a : Option Addr) (b o c : Nat) (xs : List ByteArray) (s : ByteArray) (k0 : Int) (hk0 : (Lit.int .i64 k0).wf = true) (w : World) (h : ListIn w a b o xs) (hs : s.size ≤ maxLen) :
    Calls Try.prog 49 #[.agg #[.slice a xs.length c], .string s, .int .i64 k0] w fun e w' => e = .returned (.tuple #[.string (readR xs s k0).1, .bool (readR xs s k0).2]) ∧ Below w.heap.size w w' := by
  have hl := h.len
  have F := Lib.hid fun W hb => count_any a b o c xs s W (h.below (w' := W) hb) hs
  have HS := Lib.hid h
  clear h
  have hc0 := keep_cell (w.alloc (.cells #[.slice a xs.length c] 26)) (.cells #[.int .i64 k0] 3) (cell_new w (.slice a xs.length c) 26)
  have hk1 := cell_new (w.alloc (.cells #[.slice a xs.length c] 26)) (.int .i64 k0) 3
  have HB0 := Lib.hid ((below_alloc w (.cells #[.slice a xs.length c] 26)).alloc (by simp) (.cells #[.int .i64 k0] 3))
  have hf1 := frozen_new (w.alloc (.cells #[.slice a xs.length c] 26)) (.int .i64 k0) 3
  rw [show (w.alloc (.cells #[.slice a xs.length c] 26)).heap.size = w.heap.size + 1 by simp] at hk1 hf1
  by_cases hg : goodB xs s = true
  · obtain ⟨ht, hbr⟩ := goodB_iff.1 hg
    have h40 := bare_le hbr
    have HC : Hid (countR xs s = ((wayAt xs s 0 : Int), true)) := Lib.hid (if_pos hg)
    have F2 := Lib.hid fun W hb => val_eq (v' := .tuple #[.int .i64 (wayAt xs s 0 : Int), .bool true]) (F.out W hb) (by rw [HC.out])
    have hw0 := wayAt_le ht s h40 0
    by_cases hk : 0 ≤ k0 ∧ k0 < (wayAt xs s 0 : Int)
    · have HR : Hid (readR xs s k0 = (ba (rdL xs s s.size 0 k0.toNat), true)) := Lib.hid (if_pos ⟨hg, hk⟩)
      obtain ⟨kn, rfl⟩ : ∃ kn : Nat, k0 = (kn : Int) := ⟨k0.toNat, by omega⟩
      have hkn : kn < wayAt xs s 0 := by omega
      rw [Int.toNat_natCast] at HR
      have HRd := Lib.hid (rd_at ht s s.size 0 kn (by omega) (Nat.zero_le _) hkn)
      have HT := Lib.hid ht
      have G := Lib.hid fun W hb => behind_any a b o c xs s W (HS.out.below (w' := W) hb) ht h40
      have n1 : ¬ (kn : Int) < 0 := by omega
      have n2 : ¬ (wayAt xs s 0 : Int) ≤ (kn : Int) := by omega
      clear hg F hk ht
      go_enter Try.func49, Try.ntmps49
      go_wp2_with fail
      refine (F2.out _ HB0.out).mono ?_
      rintro e w1 ⟨rfl, hb⟩
      have hk2 := (hb.cell (p := ⟨w.heap.size + 1, 0, none⟩) (by simp)).trans hk1
      have hc1 := (hb.cell (p := ⟨w.heap.size, 0, none⟩) (by simp; omega)).trans hc0
      have HB := Lib.hid (HB0.out.trans (hb.mono (by simp; omega)))
      have hb1 := hb
      clear hb hc0 hk1
      go_wp2_with fail
      refine (G.out _ HB.out).mono ?_
      rintro e w2 ⟨g, rfl, hg, hrow, hb⟩
      have hlt1 := World.block_lt_of_cell? _ _ hk2
      have hsz2 := hb.size
      have hk3 : (w2.alloc (.cells #[.slice (some ⟨g, 0, none⟩) (s.size + 1) (s.size + 1)] 56)).cell? ⟨w.heap.size + 1, 0, none⟩ = some (.int .i64 (kn : Int)) := (keep_cell _ _ ((hb.cell (p := ⟨w.heap.size + 1, 0, none⟩) hlt1).trans hk2))
      have hc3 : (w2.alloc (.cells #[.slice (some ⟨g, 0, none⟩) (s.size + 1) (s.size + 1)] 56)).cell? ⟨w.heap.size, 0, none⟩ = some (.slice a xs.length c) := (keep_cell _ _ ((hb.cell (p := ⟨w.heap.size, 0, none⟩) (World.block_lt_of_cell? _ _ hc1)).trans hc1))
      have HB3 := Lib.hid ((HB.out.trans (hb.mono HB.out.size)).alloc (Nat.le_trans HB.out.size hsz2) (.cells #[.slice (some ⟨g, 0, none⟩) (s.size + 1) (s.size + 1)] 56))
      have hf3 : (w2.alloc (.cells #[.slice (some ⟨g, 0, none⟩) (s.size + 1) (s.size + 1)] 56)).frozen? ⟨w.heap.size + 1, 0, none⟩ = false := by
        exact frozen_keep (frozen_keep (frozen_keep hf1 (by simp) hb1) hlt1 hb) (by show w.heap.size + 1 < w2.heap.size; have : w.heap.size + 1 < w1.heap.size := hlt1; omega) (below_alloc _ _)
      have HL3 : Hid (Left xs s (w.heap.size + 1) w2.heap.size g kn (w2.alloc (.cells #[.slice (some ⟨g, 0, none⟩) (s.size + 1) (s.size + 1)] 56))) := Lib.hid ⟨hk3, hf3, cell_new _ _ _, rowIs_below hrow (below_alloc _ _)⟩
      have HGl := Lib.hid (And.intro hg hrow.lt)
      clear hb hrow hg hk2 hc1
      go_wp2_with fail
      have hRB := readBy_gen (tkAt xs s) (fun k W => Left xs s (w.heap.size + 1) w2.heap.size g k W ∧ k ≤ 1099511627776) 108 w.heap.size (w.heap.size + 1) #[.pointer (some ⟨w.heap.size + 1, 0, none⟩), .pointer (some ⟨w2.heap.size, 0, none⟩)] kn a b o c xs s _ (fun W hW => HS.out.below (HB3.out.trans hW)) HT.out h40 ⟨HL3.out, by omega⟩ (left_holds (by simp; omega) (by simp) (by have := HGl.out.2; simp; omega)) (by have := HB3.out.size; omega) (by omega) (by simp; omega) enter_at (left_step HT.out h40 (by omega) (by have := HGl.out.1; omega))
      refine hRB.mono ?_
      rintro e w4 ⟨rfl, hb⟩
      have HB4 := Lib.hid (HB3.out.trans hb)
      clear hb hk3 hc3
      rw [HRd.out]
      go_wp2
      go_ret2
      exact ⟨by rw [HR.out]; rfl, HB4.out⟩
    · have HR : Hid (readR xs s k0 = (⟨#[]⟩, false)) := Lib.hid (if_neg (fun h => hk h.2))
      by_cases hneg : k0 < 0
      · clear hg F hk
        go_enter Try.func49, Try.ntmps49
        go_wp2_with fail
        refine (F2.out _ HB0.out).mono ?_
        rintro e w1 ⟨rfl, hb⟩
        have hk2 := (hb.cell (p := ⟨w.heap.size + 1, 0, none⟩) (by simp)).trans hk1
        have HB := Lib.hid (HB0.out.trans (hb.mono (by simp; omega)))
        go_wp2
        go_ret2
        exact ⟨by rw [HR.out]; rfl, HB.out⟩
      · have hge : (wayAt xs s 0 : Int) ≤ k0 := by omega
        clear hg F hk
        go_enter Try.func49, Try.ntmps49
        go_wp2_with fail
        refine (F2.out _ HB0.out).mono ?_
        rintro e w1 ⟨rfl, hb⟩
        have hk2 := (hb.cell (p := ⟨w.heap.size + 1, 0, none⟩) (by simp)).trans hk1
        have HB := Lib.hid (HB0.out.trans (hb.mono (by simp; omega)))
        go_wp2
        go_ret2
        exact ⟨by rw [HR.out]; rfl, HB.out⟩
  · have HR : Hid (readR xs s k0 = (⟨#[]⟩, false)) := Lib.hid (if_neg (fun h => hg h.1))
    have HC : Hid (countR xs s = (0, false)) := Lib.hid (if_neg hg)
    have F2 := Lib.hid fun W hb => val_eq (v' := .tuple #[.int .i64 0, .bool false]) (F.out W hb) (by rw [HC.out])
    clear hg F
    go_enter Try.func49, Try.ntmps49
    go_wp2_with fail
    refine (F2.out _ HB0.out).mono ?_
    rintro e w1 ⟨rfl, hb⟩
    have hk2 := (hb.cell (p := ⟨w.heap.size + 1, 0, none⟩) (by simp)).trans hk1
    have HB := Lib.hid (HB0.out.trans (hb.mono (by simp; omega)))
    go_wp2
    go_ret2
    exact ⟨by rw [HR.out]; rfl, HB.out⟩

theorem readingAt_both (xs : List ByteArray) (s : ByteArray) (k : Int) (hl : xs.length ≤ 1048576) (ht : ∀ x ∈ xs, x.size ≤ 1048576) (hs : s.size ≤ 1048576) (hk : (Lit.int .i64 k).wf = true) : ∃ (R0 : ByteArray) (R1 : Bool),
    Hid (∀ W a b o c, ListIn W a b o xs → Calls Try.prog 48 #[.agg #[.slice a xs.length c], .string s, .int .i64 k] W fun e W' => e = .returned (.tuple #[.string R0, .bool R1]) ∧ Below W.heap.size W W') ∧
    Hid (∀ W a b o c, ListIn W a b o xs → Calls Try.prog 49 #[.agg #[.slice a xs.length c], .string s, .int .i64 k] W fun e W' => e = .returned (.tuple #[.string R0, .bool R1]) ∧ Below W.heap.size W W') :=
  ⟨_, _, fun W a b o c h => sRead_any a b o c xs s k hk W h (by unfold maxLen; omega), fun W a b o c h => read_any a b o c xs s k hk W h (by unfold maxLen; omega)⟩
end Go.Proofs.Ytekgmdigchobbaa
