/-
  numbersOf of the program at letters: a map's nodes, collected and sorted. Used by the claims on chapter 9.
-/
import Derived.Test.YtdphjnbelggcfaaLbnW
import Derived.Test.YtdphjnbelggcfaaSeqW
import Derived.Deep.AppendLies
import Derived.BigQuiet
import Derived.Maps.AppendAt
import Derived.Sort.OwnSortedInts
namespace Go.Proofs.Ytdphjnbelggcfaa
open Go.RowKit Go.Maps Go.WideMaps Go.Sort
set_option linter.unusedVariables false

theorem infoIntN : (Try.prog.info? 3).map (fun i => (i.zero, i.size, i.bytes)) = some (some (.int .i64 0), 1, 8) := by kernel_rfl
/-- The library's sort of numbers, as the shelf has it. -/
def SortInts : Prop := ∀ (blk off cap : Nat) (zs : List Int) (w : World), Go.Sort.Holds (Value.int .i64) w blk off zs.toArray → blk < w.heap.size → zs.length < 4611686018427387904 →
  Calls Try.prog 122 #[.slice (some ⟨blk, off, none⟩) zs.length cap] w fun e w' =>
    e = .returned (.tuple #[]) ∧ ∃ n os, w' = grow (putRow (Value.int .i64) (Sort.ahead w n) blk off (zs.mergeSort fun x y => decide (x ≤ y)).toArray) os

/-- What the range has collected: nodes that are no longer to come, each once. -/
structure Col (D : DataW Value) (left : Lit → Bool) (ks : List Nat) : Prop where
  nodup : ks.Nodup
  has_ : ∀ kl, left kl = true → Maps.has D kl = true
  mem : ∀ d, d ∈ ks ↔ Maps.has D (keyM d) = true ∧ left (keyM d) = false
theorem Col.start (D : DataW Value) : Col D (Maps.has D) [] :=
  ⟨List.nodup_nil, fun _ h => h, fun d => by simp only [List.not_mem_nil, false_iff, not_and]; intro h1 h2; rw [h1] at h2; cases h2⟩
theorem Col.step {D : DataW Value} {left : Lit → Bool} {ks : List Nat} (h : Col D left ks) (d : Nat) (hd : left (keyM d) = true) : Col D (fun z => left z && !z.sameKey (keyM d)) (ks ++ [d]) := by
  refine ⟨?_, fun kl hk => h.has_ kl (by simp only [Bool.and_eq_true] at hk; exact hk.1), fun x => ?_⟩
  · refine List.nodup_append.2 ⟨h.nodup, by simp, fun a ha b hb e => ?_⟩
    simp only [List.mem_singleton] at hb
    subst hb; subst e
    have := ((h.mem a).1 ha).2
    rw [hd] at this; cases this
  · rw [List.mem_append, List.mem_singleton, h.mem x]
    by_cases e : x = d
    · subst e
      have := h.has_ _ hd
      simp [this, WideAt.sameKey_self (keyM_ok x)]
    · have : (keyM x).sameKey (keyM d) = false := sameKey_ne fun e2 => e (keyM_inj e2)
      simp [this, e]
def leN : Nat → Nat → Bool := fun x y => decide (x ≤ y)
theorem sorted_ints (ks : List Nat) : ((ks.map fun n : Nat => (n : Int)).mergeSort fun x y => decide (x ≤ y)) = (ks.mergeSort leN).map fun n : Nat => (n : Int) := by
  refine (List.map_mergeSort fun a _ b _ => ?_).symm
  show leN a b = decide ((a : Int) ≤ (b : Int))
  simp [leN, Int.ofNat_le]
theorem sorted_lt {ks : List Nat} (h : ks.Nodup) : (ks.mergeSort leN).Pairwise (· < ·) := by
  have h1 : (ks.mergeSort leN).Pairwise (fun a b => leN a b = true) := List.pairwise_mergeSort (fun a b c h1 h2 => by simp only [leN, decide_eq_true_eq] at *; omega) (fun a b => by simp only [leN, Bool.or_eq_true, decide_eq_true_eq]; omega) ks
  have h2 : (ks.mergeSort leN).Nodup := (List.mergeSort_perm ks leN).nodup_iff.2 h
  refine (h1.and h2).imp fun {a b} hab => ?_
  have h3 := hab.1
  have h4 : a ≠ b := hab.2
  simp only [leN, decide_eq_true_eq] at h3
  omega
/-- Two lists of numbers in their order with the same numbers are one. -/
theorem lt_unique {l r : List Nat} (hl : l.Pairwise (· < ·)) (hr : r.Pairwise (· < ·)) (h : ∀ d, d ∈ l ↔ d ∈ r) : l = r := by
  refine List.Perm.eq_of_pairwise (le := fun a b => a < b) (fun a b _ _ h1 h2 => by omega) hl hr ?_
  exact (List.perm_ext_iff_of_nodup (hl.imp fun h => Nat.ne_of_lt h) (hr.imp fun h => Nat.ne_of_lt h)).2 h

/-- A slice of the call's own with these nodes in their order. -/
def NumsOf (D : DataW Value) (w : World) (e : Ending) (w' : World) : Prop :=
  ∃ (L : List Nat) (g c : Nat), e = .returned (.slice (some ⟨g, 0, none⟩) L.length c) ∧ w'.ownsRow w.heap.size 3 1 (.slice (some ⟨g, 0, none⟩) L.length c) L.length (ints L) ∧ L.Pairwise (· < ·) ∧ (∀ d, d ∈ L ↔ Maps.has D (keyM d) = true) ∧ Below w.heap.size w w'

set_option maxHeartbeats 4000000 in
set_option maxRecDepth 8000 in
theorem numbersOfI_any (hS : SortInts) (B n : Nat) (D : DataW Value) (w : World) (h : w.ownsMap Try.prog 76 (plainElem Try.prog 3) B n D) (hn : Maps.size D ≤ 1000) (hk : ∀ kl, Maps.has D kl = true → ∃ d, d ≤ 63 ∧ kl = keyM d) :
    Calls Try.prog 81 #[.map (some B)] w (NumsOf D w) := by
  obtain ⟨i0, hi, hz0, hz1, hz2⟩ := info_parts infoIntN
  have hbl := h.lt
  have HO := Lib.hid h
  have HK := Lib.hid hk
  have HSo := Lib.hid hS
  have HS0 := Lib.hid hn
  clear h hk hS hn
  have hR0 : Hid ((w.alloc (Obj.cells #[] 3)).ownsRow w.heap.size 3 1 (.slice (some ⟨w.heap.size, 0, none⟩) 0 0) 0 (ints [])) := Lib.hid (World.ownsRow_made (base := w.heap.size) (e := 3) (size := 1) w #[] 0 (Nat.le_refl _) (by unfold maxLen; omega) rfl)
  have hB0 := Lib.hid (below_alloc w (Obj.cells #[] 3))
  have hz1' : (w.alloc (Obj.cells #[] 3)).heap.size = w.heap.size + 1 := by simp
  have HZ1 := Lib.hid hz1'
  clear hz1'
  have HO1 := Lib.hid (HO.out.alloc (Obj.cells #[] 3))
  go_enter Try.func81, Try.ntmps81
  go_wp2_with (first
    | (at_range; refine wpList_range_own _ rfl _ 83 rfl 76 3 lawM Try.underlying83 _ B n D rfl HO1.out ?_; intro w0 hrg0 hg0 hs0; rw [HZ1.out] at hrg0 ⊢; have HRG0 := Lib.hid hrg0; have HG0 := Lib.hid hg0; clear hrg0 hg0 hs0)
    | go_in)
  go_frame
  go_loopw [3] (fun pv wr => ∃ (ks : List Nat) (left : Lit → Bool) (cnt : Nat), Hid (wr.ranges Try.prog 76 (plainElem Try.prog 3) B (w.heap.size + 1) n D left cnt) ∧ ks.length + cnt ≤ 1000 ∧ wr.ownsRow w.heap.size 3 1 pv ks.length (ints ks) ∧ pv ≠ .slice none 0 0 ∧ Hid (Col D left ks) ∧ Hid (Below w.heap.size w wr)) (fun _ wr => wr.rangeLeft B (w.heap.size + 1))
  case atStart =>
    exact ⟨[], _, _, HRG0, by simpa using HS0.out, hR0.out.kept HG0.out (Or.inr (by simp [Value.ownBlock])), by simp, Lib.hid (Col.start D), Lib.hid (hB0.out.grown HG0.out (by have := HZ1.out; omega) (fun j hj => by cases hj))⟩
  case round =>
    obtain ⟨ks, left, cnt, HRG, hcs, hrow, hnn, HC, HB⟩ := hrel
    obtain ⟨av, capv, rfl⟩ := row_form hrow
    have HR := Lib.hid hrow
    clear hrow
    go_wp2_with (first
      | (at_next; refine wpList_next_ranges_ii _ rfl _ rfl 76 3 .i64 .i64 lawM Try.underlying76 Try.underlying3 B (w.heap.size + 1) n D left cnt rfl HRG.out ?_ ?_)
      | go_in)
    · intro hc0 hl0
      have HL0 := Lib.hid hl0
      clear hl0
      rcases HR.out.2 with ⟨hnil, _⟩ | ⟨g, cap, cur, hv, hbase, hb, h1, h2, h3, h4⟩
      · exact absurd hnil hnn
      cases hv
      have hzl : (ks.map fun n : Nat => (n : Int)).length = ks.length := List.length_map _
      have HSt := Lib.hid (HSo.out g 0 capv (ks.map fun n : Nat => (n : Int)) wr (holds_of_blockI hb (by rw [hzl]; simpa [ints, List.map_map, Function.comp_def] using h4)) (Array.getElem?_eq_some_iff.1 hb).1 (by rw [hzl]; omega))
      rw [hzl, sorted_ints] at HSt
      have HEnd : Hid (∀ nn os, NumsOf D w (.returned (.slice (some ⟨g, 0, none⟩) ks.length capv)) (grow (putRow (Value.int .i64) (Sort.ahead wr nn) g 0 ((ks.mergeSort leN).map fun n : Nat => (n : Int)).toArray) os)) := Lib.hid fun nn os => by
        have hl2 : (ks.mergeSort leN).length = ks.length := List.length_mergeSort ks
        have ho := ownsRow_sortedI (n := nn) (os := os) (base := w.heap.size) (ss := ks.map fun n : Nat => (n : Int)) (ts := (ks.mergeSort leN).map fun n : Nat => (n : Int)) (by simp [hl2]) hbase hb (by rw [hzl]; exact h1) h2 h3
        rw [hzl] at ho
        refine ⟨ks.mergeSort leN, g, capv, by rw [hl2], ?_, sorted_lt HC.out.nodup, fun d => ?_, HB.out.grown (grownBy_sortedI _) HB.out.size (fun j hj => by cases hj; exact hbase)⟩
        · rw [hl2]
          simpa [ints, List.map_map, Function.comp_def] using ho
        · rw [(List.mergeSort_perm ks leN).mem_iff, HC.out.mem d, HL0.out]
          simp
      clear hb h1 h2 h3 h4 hzl hbase
      go_wp2_with fail
      refine (HSt.out).mono ?_
      rintro e w' ⟨rfl, nn, os, rfl⟩
      go_wp2
      go_ret
      exact HEnd.out nn os
    · intro x c w2 cnt2 hwx hwc hlk hat hrg2 hlt2 hg2 hs2 hen
      obtain ⟨d, hd, ex⟩ := HK.out _ (HC.out.has_ _ hlk)
      obtain rfl : x = (d : Int) := by unfold keyM at ex; injection ex with _ e2
      have HRG2 := Lib.hid hrg2
      have HR2 := Lib.hid (HR.out.kept hg2 (Or.inr (row_ne_iter HR.out HRG.out).symm))
      have HC2 := Lib.hid (HC.out.step d hlk)
      have HB2 : Hid (Below w.heap.size w w2) := Lib.hid (HB.out.grown hg2 HB.out.size (fun j hj => by cases hj; have := HZ1.out; omega))
      have HN2 := Lib.hid (row_ne_iter HR2.out HRG2.out)
      have HN3 := Lib.hid (row_ne_low HR2.out hbl)
      clear hs2 hrg2 hg2 hlk hat hwx hwc ex
      go_wp2_with (first
        | (at_builtin; refine wpList_append_lies _ rfl _ _ 32 rfl w.heap.size 3 i0 (.int .i64 0) 1 8 Try.underlying32 hi hz0 hz1 hz2 rfl (by decide) (.slice av ks.length capv) ks.length (ints ks) rfl (HR2.out.alloc _) ⟨w2.heap.size, 0, none⟩ 1 1 [.int .i64 (d : Int)] rfl rfl (cell_one_new _ _ _) (by simp [Value.oneCell']) (by omega) (by unfold maxLen; omega) (by omega) (by have := HB2.out.size; simp; omega) (w2.heap.size + 1) (by simp) ?_; intro gg capg w5 hown5 hgrow5 hat5 hglt5)
        | go_in)
      have HRG5 := Lib.hid ((HRG2.out.alloc _).kept hgrow5 HN3.out HN2.out)
      have HW5 : Hid (w5.ownsRow w.heap.size 3 1 (.slice (some ⟨gg, 0, none⟩) (ks ++ [d]).length capg) (ks ++ [d]).length (ints (ks ++ [d]))) := Lib.hid (by rw [ints_snoc, List.length_append]; simpa using hown5)
      have HB5 : Hid (Below w.heap.size w w5) := Lib.hid ((HB2.out.alloc HB2.out.size _).grown hgrow5 (by have := HB2.out.size; simp; omega) (fun q e => (HR2.out.lt q e).1))
      have HLn : Hid (ks.length + 1 = (ks ++ [d]).length) := Lib.hid (by simp)
      clear hown5 hgrow5 hat5 hglt5 hen
      go_wp2
      go_roundw
      case rel => exact ⟨ks ++ [d], _, cnt2, HRG5, by rw [← HLn.out]; omega, by rw [HLn.out]; exact HW5.out, by simp, HC2, HB5⟩
      case measure => rw [HRG5.out.left_eq, HRG.out.left_eq]; exact hlt2
end Go.Proofs.Ytdphjnbelggcfaa
