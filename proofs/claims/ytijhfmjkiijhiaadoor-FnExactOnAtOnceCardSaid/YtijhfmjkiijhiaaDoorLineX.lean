/-
  IsLine, CountOn, ClashOf, the program's and the model's: both answer alike. Used by the claims on chapter 4.
-/
import Derived.Test.YtijhfmjkiijhiaaDoorLineW
import Derived.Test.YtijhfmjkiijhiaaDoorTrimW
import Derived.ProofKit
import Derived.Below
namespace Go.Proofs.YtijhfmjkiijhiaaDoor
open Go.RowKit
set_option linter.unusedVariables false

theorem below_drewN0 (w : World) (k : Nat) : Below w.heap.size w (w.drewN k) := ⟨rfl, rfl, rfl, Nat.le_refl _, fun _ _ => rfl⟩
theorem isLine_any (s : ByteArray) (w : World) (hs : s.size ≤ 1048576) :
    Calls Tryd.prog 17 #[.string s] w fun e w' => e = .returned (.bool (lineL (bl s))) ∧ Below w.heap.size w w' := by
  by_cases hz : 200 < s.size
  · have HR : Hid (lineL (bl s) = false) := Lib.hid (by
      have : ¬ s.size ≤ 200 := by omega
      simp [lineL, bl_len, this])
    have hz2 : ¬ (s.size : Int) ≤ 200 := by omega
    rw [HR.out]
    go_enter Tryd.func17, Tryd.ntmps17
    go_wp2
    (first | go_ret | go_ret2)
    exact ⟨rfl, Below.refl _ _⟩
  · have HR : Hid (lineL (bl s) = (Lib.trimS (bl s) [49, 48]).isEmpty) := Lib.hid (by
      rw [trim_beats]
      have : s.size ≤ 200 := by omega
      simp [lineL, bl_len, this])
    have HT : Hid (∀ w, Calls Tryd.prog 53 #[.string s, .string ⟨#[49, 48]⟩] w fun e w' => e = .returned (.string ⟨(Lib.trimS (bl s) [49, 48]).toArray⟩) ∧ Below w.heap.size w w') := Lib.hid fun w => trim_any s ⟨#[49, 48]⟩ w hs (by decide) (by decide)
    rw [HR.out]
    generalize Lib.trimS (bl s) [49, 48] = l at HT ⊢
    have hz2 : (s.size : Int) ≤ 200 := by omega
    clear HR
    go_enter Tryd.func17, Tryd.ntmps17
    go_wp2_with fail
    refine (HT.out _).mono ?_
    rintro e w' ⟨rfl, hb⟩
    have HB := Lib.hid hb
    clear hb
    go_wp2
    go_ret
    exact ⟨rfl, HB.out⟩
theorem sIsLine_any (s : ByteArray) (w : World) (hs : s.size ≤ 1048576) :
    Calls Tryd.prog 16 #[.string s] w fun e w' => e = .returned (.bool (lineL (bl s))) ∧ Below w.heap.size w w' := by
  have F := Lib.hid fun w => sLine_any s w (by unfold maxLen; omega)
  go_enter Tryd.func16, Tryd.ntmps16
  go_wp2_with fail
  refine (F.out _).mono ?_
  rintro e w' ⟨rfl, q, rfl⟩
  go_wp2
  (first | go_ret | go_ret2)
  exact ⟨rfl, below_drewN0 _ _⟩
theorem isLine_both (s : ByteArray) (hs : s.size ≤ 1048576) : ∃ R0 : Bool,
    Hid (∀ W, Calls Tryd.prog 16 #[.string s] W fun e W' => e = .returned (.bool R0) ∧ Below W.heap.size W W') ∧
    Hid (∀ W, Calls Tryd.prog 17 #[.string s] W fun e W' => e = .returned (.bool R0) ∧ Below W.heap.size W W') :=
  ⟨_, fun W => sIsLine_any s W hs, fun W => isLine_any s W hs⟩

/-- Both tests of a line, at each answer. -/
theorem sLine_is (s : ByteArray) (b : Bool) (hs : s.size ≤ 1048576) (h : lineL (bl s) = b) : Hid (∀ w, Calls Tryd.prog 52 #[.string s] w fun e w' => e = .returned (.bool b) ∧ Below w.heap.size w w') := fun w => by
  rw [← h]
  exact (sLine_any s w (by unfold maxLen; omega)).mono fun e w' ⟨h1, q, h2⟩ => ⟨h1, by rw [h2]; exact below_drewN0 _ _⟩
theorem isLine_is (s : ByteArray) (b : Bool) (hs : s.size ≤ 1048576) (h : lineL (bl s) = b) : Hid (∀ w, Calls Tryd.prog 17 #[.string s] w fun e w' => e = .returned (.bool b) ∧ Below w.heap.size w w') := fun w => by
  rw [← h]; exact isLine_any s w hs

/-! ### CountOn -/
def onTo (l : Bs) (k : Nat) : Nat := (l.take k).count 49
theorem onTo_succ (l : Bs) (k : Nat) (h : k < l.length) : onTo l (k + 1) = onTo l k + (if onAt l k = true then 1 else 0) := by
  unfold onTo
  rw [List.take_add_one, List.getElem?_eq_getElem h, List.count_append, onAt_some (List.getElem?_eq_getElem h)]
  by_cases e : l[k] = 49
  · rw [e]; rfl
  · have : (l[k] == 49) = false := beq_false_of_ne e
    simp [this, List.count_singleton]
theorem countOn_no (s : ByteArray) (w : World) (hs : s.size ≤ 1048576) (h : lineL (bl s) = false) :
    Calls Tryd.prog 26 #[.string s] w fun e w' => e = .returned (.tuple #[.int .i64 0, .bool false]) ∧ Below w.heap.size w w' := by
  have F := isLine_is s false hs h
  clear h
  go_enter Tryd.func26, Tryd.ntmps26
  go_wp2_with fail
  refine (F.out _).mono ?_
  rintro e w' ⟨rfl, hb⟩
  have HB := Lib.hid hb
  clear hb
  go_wp2
  (first | go_ret | go_ret2)
  exact ⟨rfl, HB.out⟩
theorem countOn_yes (s : ByteArray) (w : World) (hs : s.size ≤ 1048576) (h : lineL (bl s) = true) :
    Calls Tryd.prog 26 #[.string s] w fun e w' => e = .returned (.tuple #[.int .i64 (((bl s).count 49 : Nat) : Int), .bool true]) ∧ Below w.heap.size w w' := by
  have F := isLine_is s true hs h
  have G : Hid (∀ w, Calls Tryd.prog 61 #[.string s, .string ⟨#[49]⟩] w fun e w' => e = .returned (.int .i64 (((bl s).count 49 : Nat) : Int)) ∧ w' = w) := Lib.hid fun w => Tryd.strings_Count_one s 49 w
  clear h
  go_enter Tryd.func26, Tryd.ntmps26
  go_wp2_with fail
  refine (F.out _).mono ?_
  rintro e w' ⟨rfl, hb⟩
  have HB := Lib.hid hb
  clear hb
  go_wp2_with fail
  refine (G.out _).mono ?_
  rintro e w2 ⟨rfl, rfl⟩
  go_wp2
  (first | go_ret | go_ret2)
  exact ⟨rfl, HB.out⟩
theorem sCountOn_no (s : ByteArray) (w : World) (hs : s.size ≤ 1048576) (h : lineL (bl s) = false) :
    Calls Tryd.prog 25 #[.string s] w fun e w' => e = .returned (.tuple #[.int .i64 0, .bool false]) ∧ Below w.heap.size w w' := by
  have F := sLine_is s false hs h
  clear h
  go_enter Tryd.func25, Tryd.ntmps25
  go_wp2_with fail
  refine (F.out _).mono ?_
  rintro e w' ⟨rfl, hb⟩
  have HB := Lib.hid hb
  clear hb
  go_wp2
  (first | go_ret | go_ret2)
  exact ⟨rfl, HB.out⟩
theorem sCountOn_yes (s : ByteArray) (w : World) (hs : s.size ≤ 1048576) (h : lineL (bl s) = true) :
    Calls Tryd.prog 25 #[.string s] w fun e w' => e = .returned (.tuple #[.int .i64 (((bl s).count 49 : Nat) : Int), .bool true]) ∧ Below w.heap.size w w' := by
  have F := sLine_is s true hs h
  have HR : Hid ((bl s).count 49 = onTo (bl s) s.size) := Lib.hid (by unfold onTo; rw [List.take_of_length_le (by rw [bl_len]; omega)])
  rw [HR.out]
  clear h
  go_enter Tryd.func25, Tryd.ntmps25
  go_wp2_with fail
  refine (F.out _).mono ?_
  rintro e w1 ⟨rfl, hb⟩
  have HB := Lib.hid hb
  clear hb
  go_wp2
  go_loop [4, 5] (fun m v => ∃ (k mm : Nat), v = .int .i64 k ∧ k ≤ s.size ∧ m = .int .i64 mm ∧ mm ≤ k ∧ Hid (mm = onTo (bl s) k)) (fun _ v => s.size - (intOf v).toNat)
  case atStart => exact ⟨0, 0, rfl, Nat.zero_le _, rfl, Nat.le_refl _, Lib.hid rfl⟩
  case round =>
    obtain ⟨k, mm, rfl, hk, rfl, hmm, HM⟩ := hrel
    by_cases hlt : k < s.size
    · have HO := Lib.hid fun w => sOn_any s k w hs (by omega)
      have HN : Hid (onTo (bl s) (k + 1) = mm + (if onAt (bl s) k = true then 1 else 0)) := Lib.hid (by rw [onTo_succ _ _ (by rw [bl_len]; omega), ← HM.out])
      cases hO : onAt (bl s) k
      · rw [hO] at HO HN
        have HN2 : Hid (mm = onTo (bl s) (k + 1)) := Lib.hid (by rw [HN.out]; simp)
        clear hO HN
        go_wp2_with fail
        refine (HO.out _).mono ?_
        rintro e w' ⟨rfl, rfl⟩
        go_wp2
        go_round
        case rel => exact ⟨k + 1, mm, by go_num, by omega, rfl, by omega, HN2⟩
        case measure => simp [intOf]; omega
      · rw [hO] at HO HN
        have HN2 : Hid (mm + 1 = onTo (bl s) (k + 1)) := Lib.hid (by rw [HN.out]; simp)
        clear hO HN
        go_wp2_with fail
        refine (HO.out _).mono ?_
        rintro e w' ⟨rfl, rfl⟩
        go_wp2
        go_round
        case rel => exact ⟨k + 1, mm + 1, by go_num, by omega, by go_num, by omega, HN2⟩
        case measure => simp [intOf]; omega
    · have HE : Hid (onTo (bl s) s.size = mm) := Lib.hid (by rw [HM.out]; congr 1; omega)
      go_wp2
      (first | go_ret | go_ret2)
      exact ⟨by first | (rw [HE.out]; rfl) | rw [HE.out], HB.out⟩
theorem countOn_both (s : ByteArray) (hs : s.size ≤ 1048576) : ∃ (R0 : Int) (R1 : Bool),
    Hid (∀ W, Calls Tryd.prog 25 #[.string s] W fun e W' => e = .returned (.tuple #[.int .i64 R0, .bool R1]) ∧ Below W.heap.size W W') ∧
    Hid (∀ W, Calls Tryd.prog 26 #[.string s] W fun e W' => e = .returned (.tuple #[.int .i64 R0, .bool R1]) ∧ Below W.heap.size W W') := by
  cases h : lineL (bl s)
  · exact ⟨_, _, fun W => sCountOn_no s W hs h, fun W => countOn_no s W hs h⟩
  · exact ⟨_, _, fun W => sCountOn_yes s W hs h, fun W => countOn_yes s W hs h⟩

/-! ### ClashOf -/
theorem clashOfX_no (a b : ByteArray) (w : World) (ha : a.size ≤ 1048576) (hb : b.size ≤ 1048576) (h : ¬ (lineL (bl a) = true ∧ lineL (bl b) = true)) :
    Calls Tryd.prog 32 #[.string a, .string b] w fun e w' => e = .returned (.tuple #[.int .i64 0, .bool false]) ∧ Below w.heap.size w w' := by
  cases h1 : lineL (bl a)
  · have HA := isLine_is a false ha h1
    clear h h1
    go_enter Tryd.func32, Tryd.ntmps32
    go_wp2_with fail
    refine (HA.out _).mono ?_
    rintro e w1 ⟨rfl, hb1⟩
    have HB := Lib.hid hb1
    clear hb1
    go_wp2
    (first | go_ret | go_ret2)
    exact ⟨rfl, HB.out⟩
  · have h2 : lineL (bl b) = false := by
      cases h2 : lineL (bl b)
      · rfl
      · exact absurd ⟨h1, h2⟩ h
    have HA := isLine_is a true ha h1
    have HC := isLine_is b false hb h2
    clear h h1 h2
    go_enter Tryd.func32, Tryd.ntmps32
    go_wp2_with fail
    refine (HA.out _).mono ?_
    rintro e w1 ⟨rfl, hb1⟩
    have HB := Lib.hid hb1
    clear hb1
    go_wp2_with fail
    refine (HC.out _).mono ?_
    rintro e w2 ⟨rfl, hb2⟩
    have HB2 := Lib.hid (HB.out.trans (hb2.mono HB.out.size))
    clear hb2
    go_wp2
    (first | go_ret | go_ret2)
    exact ⟨rfl, HB2.out⟩
theorem sClashOf_no (a b : ByteArray) (w : World) (ha : a.size ≤ 1048576) (hb : b.size ≤ 1048576) (h : ¬ (lineL (bl a) = true ∧ lineL (bl b) = true)) :
    Calls Tryd.prog 31 #[.string a, .string b] w fun e w' => e = .returned (.tuple #[.int .i64 0, .bool false]) ∧ Below w.heap.size w w' := by
  cases h1 : lineL (bl a)
  · have HA := sLine_is a false ha h1
    clear h h1
    go_enter Tryd.func31, Tryd.ntmps31
    go_wp2_with fail
    refine (HA.out _).mono ?_
    rintro e w1 ⟨rfl, hb1⟩
    have HB := Lib.hid hb1
    clear hb1
    go_wp2
    (first | go_ret | go_ret2)
    exact ⟨rfl, HB.out⟩
  · have h2 : lineL (bl b) = false := by
      cases h2 : lineL (bl b)
      · rfl
      · exact absurd ⟨h1, h2⟩ h
    have HA := sLine_is a true ha h1
    have HC := sLine_is b false hb h2
    clear h h1 h2
    go_enter Tryd.func31, Tryd.ntmps31
    go_wp2_with fail
    refine (HA.out _).mono ?_
    rintro e w1 ⟨rfl, hb1⟩
    have HB := Lib.hid hb1
    clear hb1
    go_wp2_with fail
    refine (HC.out _).mono ?_
    rintro e w2 ⟨rfl, hb2⟩
    have HB2 := Lib.hid (HB.out.trans (hb2.mono HB.out.size))
    clear hb2
    go_wp2
    (first | go_ret | go_ret2)
    exact ⟨rfl, HB2.out⟩
theorem clashOfX_yes (a b : ByteArray) (w : World) (ha : a.size ≤ 1048576) (hb : b.size ≤ 1048576) (h1 : lineL (bl a) = true) (h2 : lineL (bl b) = true) :
    Calls Tryd.prog 32 #[.string a, .string b] w fun e w' => e = .returned (.tuple #[.int .i64 ((clash (bl a) (bl b) 0 : Nat) : Int), .bool true]) ∧ Below w.heap.size w w' := by
  have la : a.size ≤ 200 := by have := line_len h1; rwa [bl_len] at this
  have lb : b.size ≤ 200 := by have := line_len h2; rwa [bl_len] at this
  have HA := isLine_is a true ha h1
  have HC := isLine_is b true hb h2
  have HK := Lib.hid fun w => clashOf_any a b w ha hb
  clear h1 h2
  go_enter Tryd.func32, Tryd.ntmps32
  go_wp2_with fail
  refine (HA.out _).mono ?_
  rintro e w1 ⟨rfl, hb1⟩
  have HB := Lib.hid hb1
  clear hb1
  go_wp2_with fail
  refine (HC.out _).mono ?_
  rintro e w2 ⟨rfl, hb2⟩
  have HB2 := Lib.hid (HB.out.trans (hb2.mono HB.out.size))
  clear hb2
  go_wp2_with fail
  refine (HK.out _).mono ?_
  rintro e w3 ⟨rfl, rfl⟩
  go_wp2
  (first | go_ret | go_ret2)
  exact ⟨rfl, HB2.out⟩
theorem sClashOf_yes (a b : ByteArray) (w : World) (ha : a.size ≤ 1048576) (hb : b.size ≤ 1048576) (h1 : lineL (bl a) = true) (h2 : lineL (bl b) = true) :
    Calls Tryd.prog 31 #[.string a, .string b] w fun e w' => e = .returned (.tuple #[.int .i64 ((clash (bl a) (bl b) 0 : Nat) : Int), .bool true]) ∧ Below w.heap.size w w' := by
  have la : a.size ≤ 200 := by have := line_len h1; rwa [bl_len] at this
  have lb : b.size ≤ 200 := by have := line_len h2; rwa [bl_len] at this
  have HA := sLine_is a true ha h1
  have HC := sLine_is b true hb h2
  have HK := Lib.hid fun w => sClash_any a b 0 w ha hb (by omega)
  clear h1 h2
  go_enter Tryd.func31, Tryd.ntmps31
  go_wp2_with fail
  refine (HA.out _).mono ?_
  rintro e w1 ⟨rfl, hb1⟩
  have HB := Lib.hid hb1
  clear hb1
  go_wp2_with fail
  refine (HC.out _).mono ?_
  rintro e w2 ⟨rfl, hb2⟩
  have HB2 := Lib.hid (HB.out.trans (hb2.mono HB.out.size))
  clear hb2
  go_wp2_with fail
  refine (HK.out _).mono ?_
  rintro e w3 ⟨rfl, rfl⟩
  go_wp2
  (first | go_ret | go_ret2)
  exact ⟨rfl, HB2.out⟩
theorem clashOf_both (a b : ByteArray) (ha : a.size ≤ 1048576) (hb : b.size ≤ 1048576) : ∃ (R0 : Int) (R1 : Bool),
    Hid (∀ W, Calls Tryd.prog 31 #[.string a, .string b] W fun e W' => e = .returned (.tuple #[.int .i64 R0, .bool R1]) ∧ Below W.heap.size W W') ∧
    Hid (∀ W, Calls Tryd.prog 32 #[.string a, .string b] W fun e W' => e = .returned (.tuple #[.int .i64 R0, .bool R1]) ∧ Below W.heap.size W W') := by
  by_cases h : lineL (bl a) = true ∧ lineL (bl b) = true
  · exact ⟨_, _, fun W => sClashOf_yes a b W ha hb h.1 h.2, fun W => clashOfX_yes a b W ha hb h.1 h.2⟩
  · exact ⟨_, _, fun W => sClashOf_no a b W ha hb h, fun W => clashOfX_no a b W ha hb h⟩

end Go.Proofs.YtijhfmjkiijhiaaDoor
