/-
  l3Places of the model: the places of which enough readings have a border. Used by the claims on chapter 3.
-/
import Derived.Test.YtekgmdigchobbaaPlaceL
import Derived.Deep.AppendLies
namespace Go.Proofs.Ytekgmdigchobbaa
open Go.RowKit
set_option linter.unusedVariables false

set_option maxHeartbeats 8000000 in
set_option maxRecDepth 8000 in
theorem sPlaces_any (all : Bool) (a : Option Addr) (b o c : Nat) (xs : List ByteArray) (s : ByteArray) (w : World) (h : ListIn w a b o xs) (ht : tableB xs = true) (h40 : s.size ≤ 40) :
    Calls Try.prog 117 #[.agg #[.slice a xs.length c], .string s, .bool all] w fun e w' => (∃ a' g' c', e = .returned (.slice a' (placesL xs s all (s.size + 1)).length c') ∧ SrcV w' a' g' (ints (placesL xs s all (s.size + 1))) ∧ (0 < (ints (placesL xs s all (s.size + 1))).length → w.heap.size ≤ g') ∧ (∀ j, j < (ints (placesL xs s all (s.size + 1))).length → w'.frozen? ⟨g', j, none⟩ = false)) ∧ Below w.heap.size w w' := by
  have hl := h.len
  have G := Lib.hid fun W hb => sBorders_any a b o c xs s W (h.below (w' := W) hb) ht h40
  have HT := Lib.hid ht
  obtain ⟨i0, hi, hz0, hz1, hz2⟩ := info_parts infoInt
  clear h ht
  have e0 : (w.alloc (.cells #[.slice a xs.length c] 26)).heap.size = w.heap.size + 1 := by simp
  have M0 : Hid (((w.alloc (.cells #[.slice a xs.length c] 26)).alloc (Obj.cells #[] 3)).ownsRow (w.heap.size + 1) 3 1 (.slice (some ⟨w.heap.size + 1, 0, none⟩) 0 0) 0 (ints [])) := Lib.hid (by
    have := World.ownsRow_made (base := w.heap.size + 1) (e := 3) (size := 1) (w.alloc (.cells #[.slice a xs.length c] 26)) #[] 0 (by simp) (by unfold maxLen; omega) rfl
    rw [e0] at this
    exact this)
  have hB1 := Lib.hid ((below_alloc w (.cells #[.slice a xs.length c] 26)).alloc (by simp) (Obj.cells #[] 3))
  have hc0 := keep_cell (w.alloc (.cells #[.slice a xs.length c] 26)) (Obj.cells #[] 3) (cell_new w (.slice a xs.length c) 26)
  go_enter Try.func117, Try.ntmps117
  go_wp2_with fail
  refine (G.out _ hB1.out).mono ?_
  rintro e w1 ⟨⟨g, rfl, hg, hrow⟩, hb⟩
  have HB := Lib.hid (hB1.out.trans (hb.mono hB1.out.size))
  have hown1 := row_below M0.out hb
  have HO1 := Lib.hid hown1
  have HV := Lib.hid hrow
  have HGl : Hid (w.heap.size + 1 < g) := Lib.hid (Nat.lt_of_lt_of_le (by simp) hg)
  have HS1 : Hid (w.heap.size + 1 < w1.heap.size) := Lib.hid (Nat.lt_of_lt_of_le (by simp) hb.size)
  clear hb hrow hown1 hc0
  go_wp2_with fail
  go_loopw [7, 10] (fun pv v wr => ∃ k : Nat, v = .int .i64 k ∧ k ≤ s.size + 1 ∧ wr.ownsRow (w.heap.size + 1) 3 1 pv (placesL xs s all k).length (ints (placesL xs s all k)) ∧ pv.ownBlock ≠ some g ∧ Hid (wr.rowIs g 3 (s.size + 1) (fun j => .int .i64 ((midAt xs s j : Nat) : Int))) ∧ Hid (Below w.heap.size w wr) ∧ Hid (w1.heap.size ≤ wr.heap.size)) (fun _ v _ => s.size + 1 - (intOf v).toNat)
  case atStart => exact ⟨0, rfl, Nat.zero_le _, HO1.out, by have := HGl.out; simp [Value.ownBlock]; omega, HV, HB, Lib.hid (Nat.le_refl _)⟩
  case round =>
    obtain ⟨k, rfl, hk, hown, hne, R1, HB5, HSz⟩ := hrel
    obtain ⟨av, capv, rfl⟩ := row_form hown
    by_cases hlt : k < s.size + 1
    · have e1 := R1.out.cell (i := k) hlt
      have i2 : (0 : Int) ≤ (k : Int) := by omega
      have i3 : (k : Int) < (s.size : Int) + 1 := by omega
      have hmid : midAt xs s k ≤ 1099511627776 := mid_le HT.out s h40 k
      have hpos : midAt xs s k ≤ wayAt xs s 0 := mid_pos HT.out s k
      have HK : Hid (keepP xs s all k = (decide (0 < midAt xs s k) && (!all || decide (midAt xs s k = wayAt xs s 0)))) := Lib.hid rfl
      have HPl := Lib.hid (placesL_succ xs s all k)
      have hle := placesL_le xs s all k
      generalize midAt xs s k = m at e1 hmid hpos HK
      generalize wayAt xs s 0 = n at hpos HK ⊢
      generalize hpl : placesL xs s all k = pl at hown hle HPl hne
      have HLt : Hid (∀ q, (Value.slice av pl.length capv).ownBlock = some q → w.heap.size + 1 ≤ q ∧ q < wr.heap.size) := Lib.hid hown.lt
      have hws : w.heap.size + 1 ≤ wr.heap.size := by have := HSz.out; have := HS1.out; omega
      clear hpl
      by_cases hkp : keepP xs s all k = true
      · have HP2 : Hid (placesL xs s all (k + 1) = pl ++ [k]) := Lib.hid (by rw [HPl.out, if_pos hkp])
        rw [HK.out, Bool.and_eq_true, decide_eq_true_eq] at hkp
        obtain ⟨hm0, hal⟩ := hkp
        have j1 : (0 : Int) < (m : Int) := by omega
        have j2 : (0 : Int) < (n : Int) := by omega
        have j3 : all = true → ((m : Int) == (n : Int)) = true := fun ha => by
          rw [ha] at hal
          simp at hal
          simp [hal]
        clear hal
        cases all
        · clear j3
          go_wp2_with (at_builtin; refine wpList_append_lies _ rfl _ _ 56 rfl (w.heap.size + 1) 3 i0 (.int .i64 0) 1 8 Try.underlying56 hi hz0 hz1 hz2 rfl (by decide) (.slice av pl.length capv) pl.length (ints pl) rfl (hown.alloc _) ⟨wr.heap.size, 0, none⟩ 1 1 [.int .i64 (k : Int)] rfl rfl (cell_one_new _ _ _) (by simp [Value.oneCell']) (by omega) (by unfold maxLen; omega) (by omega) (by simp; omega) (wr.heap.size + 1) (by simp) ?_; intro gg capg w7 hown' hgrow hat hglt)
          have HW7 : Hid (w7.ownsRow (w.heap.size + 1) 3 1 (.slice (some ⟨gg, 0, none⟩) (pl.length + 1) capg) (pl ++ [k]).length (ints (pl ++ [k]))) := Lib.hid (by rw [ints_snoc]; simpa using hown')
          have R5 : Hid (w7.rowIs g 3 (s.size + 1) (fun j => .int .i64 ((midAt xs s j : Nat) : Int))) := Lib.hid (rowIs_grown R1.out hgrow hne)
          have hne7 : (Value.slice (some ⟨gg, 0, none⟩) (pl.length + 1) capg).ownBlock ≠ some g := fun e => by
            have e2 : gg = g := by simpa [Value.ownBlock] using e
            rcases hat with h9 | h9
            · exact hne (h9.trans (by rw [e2]))
            · have := R1.out.lt; omega
          have HB7 : Hid (Below w.heap.size w w7) := Lib.hid ((HB5.out.alloc HB5.out.size _).grown hgrow (by have := HB5.out.size; simp; omega) (fun q e => by have := (HLt.out q e).1; omega))
          have HS7 : Hid (w1.heap.size ≤ w7.heap.size) := Lib.hid (Nat.le_trans HSz.out (Nat.le_trans (by simp) hgrow.size))
          clear hown' hgrow hat hglt
          all_goals (
            go_roundw
            case rel => exact ⟨k + 1, by go_num, by omega, by rw [HP2.out]; exact HW7.out, hne7, R5, HB7, HS7⟩
            case measure => simp [intOf]; omega)
        · have j4 := j3 rfl
          clear j3
          go_wp2_with (at_builtin; refine wpList_append_lies _ rfl _ _ 56 rfl (w.heap.size + 1) 3 i0 (.int .i64 0) 1 8 Try.underlying56 hi hz0 hz1 hz2 rfl (by decide) (.slice av pl.length capv) pl.length (ints pl) rfl (hown.alloc _) ⟨wr.heap.size, 0, none⟩ 1 1 [.int .i64 (k : Int)] rfl rfl (cell_one_new _ _ _) (by simp [Value.oneCell']) (by omega) (by unfold maxLen; omega) (by omega) (by simp; omega) (wr.heap.size + 1) (by simp) ?_; intro gg capg w7 hown' hgrow hat hglt)
          have HW7 : Hid (w7.ownsRow (w.heap.size + 1) 3 1 (.slice (some ⟨gg, 0, none⟩) (pl.length + 1) capg) (pl ++ [k]).length (ints (pl ++ [k]))) := Lib.hid (by rw [ints_snoc]; simpa using hown')
          have R5 : Hid (w7.rowIs g 3 (s.size + 1) (fun j => .int .i64 ((midAt xs s j : Nat) : Int))) := Lib.hid (rowIs_grown R1.out hgrow hne)
          have hne7 : (Value.slice (some ⟨gg, 0, none⟩) (pl.length + 1) capg).ownBlock ≠ some g := fun e => by
            have e2 : gg = g := by simpa [Value.ownBlock] using e
            rcases hat with h9 | h9
            · exact hne (h9.trans (by rw [e2]))
            · have := R1.out.lt; omega
          have HB7 : Hid (Below w.heap.size w w7) := Lib.hid ((HB5.out.alloc HB5.out.size _).grown hgrow (by have := HB5.out.size; simp; omega) (fun q e => by have := (HLt.out q e).1; omega))
          have HS7 : Hid (w1.heap.size ≤ w7.heap.size) := Lib.hid (Nat.le_trans HSz.out (Nat.le_trans (by simp) hgrow.size))
          clear hown' hgrow hat hglt
          all_goals (
            go_roundw
            case rel => exact ⟨k + 1, by go_num, by omega, by rw [HP2.out]; exact HW7.out, hne7, R5, HB7, HS7⟩
            case measure => simp [intOf]; omega)
      · have HP2 : Hid (placesL xs s all (k + 1) = pl) := Lib.hid (by rw [HPl.out, if_neg hkp, List.append_nil])
        rw [HK.out] at hkp
        by_cases hn0 : n = 0
        · subst hn0
          obtain rfl : m = 0 := by omega
          clear hkp
          go_wp2
          go_roundw
          case rel => exact ⟨k + 1, by go_num, by omega, by rw [HP2.out]; exact hown, hne, R1, HB5, HSz⟩
          case measure => simp [intOf]; omega
        · have j2 : (0 : Int) < (n : Int) := by omega
          by_cases hm0 : m = 0
          · subst hm0
            clear hkp
            go_wp2
            go_roundw
            case rel => exact ⟨k + 1, by go_num, by omega, by rw [HP2.out]; exact hown, hne, R1, HB5, HSz⟩
            case measure => simp [intOf]; omega
          · have j1 : (0 : Int) < (m : Int) := by omega
            have hall : all = true ∧ m ≠ n := by
              have h1 : decide (0 < m) = true := decide_eq_true (by omega)
              rw [h1, Bool.true_and] at hkp
              cases all
              · simp at hkp
              · simp at hkp; exact ⟨rfl, hkp⟩
            obtain ⟨rfl, hmn⟩ := hall
            have j4 : ((m : Int) == (n : Int)) = false := beq_false_of_ne (by omega)
            clear hkp hmn
            go_wp2
            go_roundw
            case rel => exact ⟨k + 1, by go_num, by omega, by rw [HP2.out]; exact hown, hne, R1, HB5, HSz⟩
            case measure => simp [intOf]; omega
    · obtain rfl : k = s.size + 1 := by omega
      go_wp2
      go_ret
      obtain ⟨a', g', c', hv, hs', hg', hf'⟩ := seq_of_row hown
      injection hv with hv1 hv2 hv3
      subst hv1; subst hv3
      exact ⟨⟨_, g', _, rfl, hs', fun h => Nat.le_of_succ_le (hg' h), hf'⟩, HB5.out⟩
end Go.Proofs.Ytekgmdigchobbaa
