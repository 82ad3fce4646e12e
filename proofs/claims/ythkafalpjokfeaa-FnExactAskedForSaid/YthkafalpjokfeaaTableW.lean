/-
  Contracts of lettersByMarks, IsTable (the program's) and of l2Place, l2Table, IsTable (the model's): which lists of texts are tables. Used by the claims on chapter 2.
-/
import Derived.Test.YthkafalpjokfeaaSignW
import Derived.Test.YthkafalpjokfeaaTableL
import Derived.Maps.OwnSet
import Derived.Deep.RegionHeld3
import Derived.Deep.RegionWith
namespace Go.Proofs.Ythkafalpjokfeaa
open Go.RowKit Go.Maps Go.WideMaps
set_option linter.unusedVariables false

/-! ### The map of the letters by their marks, plain -/
def keyB (x : ByteArray) : Lit := .string x.data.toList
def letD (xs : List ByteArray) : Nat → DataW Unit
  | 0 => .map []
  | k + 1 => match xs[k]? with
    | some x => (letD xs k).put (keyB x) (.lit (.int .i64 k))
    | none => letD xs k
theorem keyB_ok (x : ByteArray) : WideAt.IsKeyLit (keyB x) := trivial
theorem keyB_ne {x y : ByteArray} (h : x ≠ y) : keyB x ≠ keyB y := fun e => h (bl_inj (Lit.string.inj e))
theorem letD_tidy (xs : List ByteArray) : ∀ k, Tidy (letD xs k)
  | 0 => tidy_empty
  | k + 1 => by
    unfold letD
    split
    · exact (letD_tidy xs k).put (keyB_ok _) _
    · exact letD_tidy xs k
theorem letD_has (xs : List ByteArray) (y : ByteArray) : ∀ k, Maps.has (letD xs k) (keyB y) = true ↔ y ∈ xs.take k
  | 0 => by simp [letD, Maps.has]
  | k + 1 => by
    have ih := letD_has xs y k
    rw [List.take_add_one]
    unfold letD
    cases h : xs[k]? with
    | none => simpa [h] using ih
    | some x =>
      simp only [Option.toList_some, List.mem_append, List.mem_singleton]
      by_cases e : y = x
      · subst e
        rw [has_put_same (letD_tidy xs k).isMap (keyB_ok _)]
        simp
      · rw [has_put_other (keyB_ne e), ih]
        simp [e]
theorem letD_at (xs : List ByteArray) (hn : xs.Nodup) (y : ByteArray) (i : Nat) (hi : xs[i]? = some y) (z : DataW Unit) : ∀ k, i < k → k ≤ xs.length → (letD xs k).atKey (keyB y) z = .lit (.int .i64 i)
  | 0, h, _ => by omega
  | k + 1, h, hk => by
    unfold letD
    rw [List.getElem?_eq_getElem (show k < xs.length by omega)]
    simp only
    by_cases e : i = k
    · subst e
      obtain ⟨h1, e1⟩ := List.getElem?_eq_some_iff.1 hi
      rw [e1, atKey_put_same (letD_tidy xs i).isMap (keyB_ok _)]
    · have hne : y ≠ xs[k] := fun e2 => e ((List.getElem?_inj (List.getElem?_eq_some_iff.1 hi).1 hn).1 (by rw [hi, List.getElem?_eq_getElem (show k < xs.length by omega), e2]))
      rw [atKey_put_other (keyB_ne hne)]
      exact letD_at xs hn y i hi z k (by omega) (by omega)
theorem letD_size (xs : List ByteArray) : ∀ k, k ≤ xs.length → Maps.size (letD xs k) ≤ k ∧ (Maps.size (letD xs k) = k ↔ (xs.take k).Nodup)
  | 0, _ => by simp [letD, Maps.size]
  | k + 1, hk => by
    obtain ⟨h1, h2⟩ := letD_size xs k (by omega)
    have hx := List.getElem?_eq_getElem (show k < xs.length by omega)
    have hh := letD_has xs xs[k] k
    rw [List.take_add_one, hx, Option.toList_some, List.nodup_append]
    unfold letD
    rw [hx]
    simp only
    rw [size_put (letD_tidy xs k)]
    by_cases hm : xs[k] ∈ xs.take k
    · rw [if_pos (hh.2 hm)]
      refine ⟨by omega, fun e => by omega, fun h => ?_⟩
      exact absurd rfl (h.2.2 _ hm _ (by simp))
    · rw [if_neg (fun h => hm (hh.1 h))]
      refine ⟨by omega, fun e => ⟨h2.1 (by omega), by simp, fun a ha b hb e2 => ?_⟩, fun h => by have := h2.2 h.1; omega⟩
      simp only [List.mem_singleton] at hb
      subst hb; subst e2
      exact hm ha
theorem letD_len (xs : List ByteArray) : Maps.size (letD xs xs.length) ≤ xs.length ∧ (Maps.size (letD xs xs.length) = xs.length ↔ xs.Nodup) := by
  have := letD_size xs xs.length (Nat.le_refl _)
  rwa [List.take_length] at this

/-! ### The program's -/
theorem law9 : Keyed Try.prog 9 := string_keyed Try.underlying9
theorem zeroI (w : World) : (zeroValue 3).run Try.prog w = .ok (.int .i64 0) w := by kernel_rfl

def Letters (xs : List ByteArray) (w : World) (e : Ending) (w' : World) : Prop := ∃ B, e = .returned (.map (some B)) ∧ w.heap.size ≤ B ∧ w'.ownsMap Try.prog 9 (plainElem Try.prog 3) B xs.length (letD xs xs.length) ∧ Below w.heap.size w w'

set_option maxRecDepth 100000 in
theorem letters_any (a : Option Addr) (b o c : Nat) (xs : List ByteArray) (w : World) (h : ListIn w a b o xs) :
    Calls Try.prog 108 #[.agg #[.slice a xs.length c]] w (Letters xs w) := by
  have hl := h.len
  have HS := Lib.hid h
  clear h
  have hmm := @run_makeMap Try.prog
  go_enter Try.func108, Try.ntmps108
  go_wp2
  go_loopw [10] (fun i wr => ∃ k : Nat, k ≤ xs.length ∧ i = .int .i64 k ∧ wr.ownsMap Try.prog 9 (plainElem Try.prog 3) (w.heap.size + 1) k (letD xs k) ∧ Below w.heap.size w wr ∧ w.heap.size + 1 < wr.heap.size)
    (fun i _ => xs.length - (intOf i).toNat)
  case atStart =>
    refine ⟨0, Nat.zero_le _, rfl, ?_, (below_alloc _ _).alloc (by simp) _, by simp⟩
    have := World.ownsMap_made (w.alloc (.cells #[.slice a xs.length c] 29)) Try.prog 9 (plainElem (H := Unit) Try.prog 3)
    simpa [letD] using this
  case round =>
    obtain ⟨k, hk, rfl, hown, hnx, hsz⟩ := hrel
    by_cases hlt : k < xs.length
    · obtain rfl := HS.out.src.1 (by omega)
      have hcell := (HS.out.below hnx).src.2 k _ (List.getElem?_eq_getElem hlt)
      have HX : Hid (letD xs (k + 1) = (letD xs k).put (keyB xs[k]) (.lit (.int .i64 k))) := by
        show _ = _
        rw [letD, List.getElem?_eq_getElem hlt]
      have hkey : keyOf Try.prog 9 (.string xs[k]) = some (keyB xs[k]) := keyOf_string_mk Try.underlying9 (by have := HS.out.texts _ (List.getElem_mem hlt); unfold maxLen; omega)
      generalize xs[k] = x at hcell HX hkey
      go_wp2_with (first
        | (at_mapUpdate; refine wpList_mapUpdate_own _ rfl _ _ _ 113 rfl 9 3 law9 Try.underlying113 _ (w.heap.size + 1) k _ rfl hown (by unfold maxLen; omega) _ _ _ rfl rfl hkey _ [] (plainElem_int Try.underlying3 (WalkArith.wf_i64 (by omega))) ?_)
        | go_in)
      intro w1 hown1 hgrow1
      have R1 : Hid (w1.ownsMap Try.prog 9 (plainElem Try.prog 3) (w.heap.size + 1) (k + 1) (letD xs (k + 1))) := by
        show World.ownsMap _ _ _ _ _ _ _
        rw [HX.out]; exact hown1
      have R2 := Lib.hid (hnx.grown hgrow1 hnx.size (fun j hj => by cases hj; omega))
      have R3 := Lib.hid (Nat.lt_of_lt_of_le hsz hgrow1.size)
      clear hown1 hgrow1 hown hcell
      go_wp2
      go_roundw
      case rel => exact ⟨k + 1, by omega, by go_num, R1.out, R2.out, R3.out⟩
      case measure => simp [intOf]; omega
    · have : k = xs.length := by omega
      subst this
      go_wp2
      go_ret
      exact ⟨w.heap.size + 1, rfl, by omega, hown, hnx⟩

set_option maxHeartbeats 1000000 in
set_option maxRecDepth 100000 in
theorem isTable_any (a : Option Addr) (b o c : Nat) (xs : List ByteArray) (w : World) (h : ListIn w a b o xs) :
    Calls Try.prog 67 #[.agg #[.slice a xs.length c]] w fun e w' => e = .returned (.bool (tableB xs)) ∧ Below w.heap.size w w' := by
  have hl := h.len
  have HS := Lib.hid h
  clear h
  by_cases hz : xs.length < 1
  · have HR : Hid (tableB xs = false) := Lib.hid (tableB_no (by omega))
    rw [HR.out]
    go_enter Try.func67, Try.ntmps67
    go_wp2
    go_ret
    exact ⟨rfl, below_alloc _ _⟩
  · by_cases hz2 : 10 < xs.length
    · have HR : Hid (tableB xs = false) := Lib.hid (tableB_no (by omega))
      rw [HR.out]
      go_enter Try.func67, Try.ntmps67
      go_wp2
      go_ret
      exact ⟨rfl, below_alloc _ _⟩
    · go_enter Try.func67, Try.ntmps67
      go_wp2
      go_loopw [18] (fun i wr => ∃ k : Nat, k ≤ xs.length ∧ i = .int .i64 k ∧ wr.cell? ⟨w.heap.size, 0, none⟩ = some (.slice a xs.length c) ∧ Hid (Below w.heap.size w wr) ∧ Hid (w.heap.size < wr.heap.size) ∧ Hid (∀ x ∈ xs.take k, marksL (bl x) = true))
        (fun i _ => xs.length - (intOf i).toNat)
      case atStart => exact ⟨0, Nat.zero_le _, rfl, cell_new _ _ _, below_alloc _ _, Lib.hid (by simp), Lib.hid (by simp)⟩
      case round =>
        obtain ⟨k, hk, rfl, hc0, HB, HZ, HM⟩ := hrel
        by_cases hlt : k < xs.length
        · obtain rfl := HS.out.src.1 (by omega)
          have hcell := (HS.out.below HB.out).src.2 k _ (List.getElem?_eq_getElem hlt)
          have HX := Lib.hid (List.getElem?_eq_getElem hlt)
          have hxm := HS.out.texts _ (List.getElem_mem hlt)
          generalize xs[k] = x at hcell HX hxm
          have HA := Lib.hid fun w => areMarks_any x w (by unfold maxLen; omega)
          clear hxm
          by_cases hmk : marksL (bl x) = true
          · have HA2 : Hid (∀ w, Calls Try.prog 107 #[.string x] w fun e w' => e = .returned (.bool true) ∧ Below w.heap.size w w') := Lib.hid fun w => (HA.out w).mono fun e w' ⟨h1, h2⟩ => ⟨by rw [h1, hmk], h2⟩
            have HN : Hid (∀ x ∈ xs.take (k + 1), marksL (bl x) = true) := Lib.hid (fun y hy => by
              rw [List.take_add_one, HX.out] at hy
              rcases List.mem_append.1 hy with h | h
              · exact HM.out y h
              · simp at h; subst h; exact hmk)
            clear hmk
            go_wp2_with fail
            refine (HA2.out _).mono ?_
            rintro e w1 ⟨rfl, hb⟩
            have hc1 : w1.cell? ⟨w.heap.size, 0, none⟩ = some (.slice (some ⟨b, o, none⟩) xs.length c) := (hb.cell (p := ⟨w.heap.size, 0, none⟩) HZ.out).trans hc0
            have HB1 := Lib.hid (HB.out.trans (hb.mono (Nat.le_of_lt HZ.out)))
            have HZ1 := Lib.hid (Nat.lt_of_lt_of_le HZ.out hb.size)
            clear hb hcell
            go_wp2
            go_roundw
            case rel => exact ⟨k + 1, by omega, by go_num, hc1, HB1, HZ1, HN⟩
            case measure => simp [intOf]; omega
          · have HA2 : Hid (∀ w, Calls Try.prog 107 #[.string x] w fun e w' => e = .returned (.bool false) ∧ Below w.heap.size w w') := Lib.hid fun w => (HA.out w).mono fun e w' ⟨h1, h2⟩ => ⟨by rw [h1]; simp [hmk], h2⟩
            have HR : Hid (tableB xs = false) := Lib.hid (tableB_no (fun h => hmk (h.2.1 x (List.mem_of_getElem? HX.out))))
            clear hmk
            go_wp2_with fail
            refine (HA2.out _).mono ?_
            rintro e w1 ⟨rfl, hb⟩
            have HB1 := Lib.hid (HB.out.trans (hb.mono (Nat.le_of_lt HZ.out)))
            clear hb hcell
            go_wp2
            go_ret
            exact ⟨by rw [HR.out]; rfl, HB1.out⟩
        · have hmk := HM.out
          rw [List.take_of_length_le (by omega)] at hmk
          have HL := Lib.hid fun w1 (hb : Below w.heap.size w w1) => letters_any a b o c xs w1 (HS.out.below hb)
          have hBr := HB.out
          have hZr := HZ.out
          have HR : Hid (tableB xs = ((Maps.size (letD xs xs.length) : Int) == (xs.length : Int))) := Lib.hid (by
            have h1 := letD_len xs
            by_cases hn : xs.Nodup
            · rw [(tableB_iff xs).2 ⟨by omega, hmk, hn⟩, h1.2.2 hn]; simp
            · rw [tableB_no (fun h => hn h.2.2)]
              exact (beq_false_of_ne (fun e => hn (h1.2.1 (by omega)))).symm)
          have HB3 := HB.out
          clear HM hmk
          have hls := (letD_len xs).1
          obtain ⟨z, hz⟩ : ∃ z, z = Maps.size (letD xs xs.length) := ⟨_, rfl⟩
          rw [← hz] at HR hls
          have HZz := Lib.hid hz
          clear hz
          have HL2 : Hid (∀ w1, Below w.heap.size w w1 → w.heap.size < w1.heap.size → w1.cell? ⟨w.heap.size, 0, none⟩ = some (.slice a xs.length c) → Calls Try.prog 108 #[.agg #[.slice a xs.length c]] w1 fun e w2 => ∃ B, e = .returned (.map (some B)) ∧ (∀ ty, (Builtin.len_ #[113] ty #[.map (some B)]).run Try.prog w2 = .ok (.int .i64 z) w2) ∧ w2.cell? ⟨w.heap.size, 0, none⟩ = some (.slice a xs.length c) ∧ Hid (Below w.heap.size w w2)) := fun w1 h1 h2 h3 => (HL.out w1 h1).mono fun e w2 ⟨B, he, hB, hown, hb⟩ =>
            ⟨B, he, fun ty => by rw [HZz.out]; exact hown.len Try.underlying113 ty, (hb.cell (p := ⟨w.heap.size, 0, none⟩) h2).trans h3, h1.trans (hb.mono (Nat.le_of_lt h2))⟩
          go_wp2_with fail
          go_region_with (go_at_call 108; refine (HL2.out _ HB.out.drew HZ.out hc0).mono ?_; rintro e w2 ⟨B, rfl, hlen0, hc2, HB2⟩)
          all_goals (
            go_wp2
            go_ret
            exact ⟨by rw [HR.out]; rfl, HB2.out⟩)
end Go.Proofs.Ythkafalpjokfeaa
