/-
  Contracts of VerifyChecksum, of the program and of the model. Used by the claims on VerifyChecksum and FnStrings.
-/
import Derived.Test.YtppiocjmhlgjoaaDoorOpenL
import Derived.Test.YtppiocjmhlgjoaaDoorSealW
import Derived.Test.YtppiocjmhlgjoaaDoorParseW
import Derived.Test.YtppiocjmhlgjoaaDoorSplitIW
namespace Go.Proofs.YtppiocjmhlgjoaaDoor
open Go.RowKit
set_option linter.unusedVariables false

theorem split_long (s sep : ByteArray) (w : World) (hm : s.size ≤ maxLen) (h : 4000 < s.size) :
    Calls Tryd.prog 35 #[.string s, .string sep] w fun e w' => e = .returned (.tuple #[.slice (some ⟨w.heap.size, 0, none⟩) 0 0, .bool false]) ∧ w' = w.alloc (.cells #[] 9) := by
  unfold maxLen at hm
  go_enter Tryd.func35, Tryd.ntmps35
  go_wp2
  go_ret2
  exact ⟨rfl, rfl⟩

/-- What a text is opened as: 'some t' just where t is a text that AppendChecksum seals as it. -/
def Opened (s : ByteArray) : Option ByteArray → Prop
  | some t => CanSeal t ∧ sealed t.data.toList = s.data.toList
  | none => ∀ t, CanSeal t → sealed t.data.toList ≠ s.data.toList
theorem sealed_split {s t : ByteArray} (h : (35 : UInt8) ∉ t.data.toList) (e : sealed t.data.toList = s.data.toList) : splitS s 35 = [t, ⟨(Lib.itoa (sumL t.data.toList)).toArray⟩] :=
  split_pair s t _ 35 h (itoa_sum_35 _) (by rw [← e]; rfl)
theorem Opened.same {s : ByteArray} {a b : Option ByteArray} (ha : Opened s a) (hb : Opened s b) : a = b := by
  cases a with
  | none =>
    cases b with
    | none => rfl
    | some y => exact absurd hb.2 (ha y hb.1)
  | some x =>
    cases b with
    | none => exact absurd ha.2 (hb x ha.1)
    | some y =>
      have h1 := sealed_split ha.1.2.1 ha.2
      have h2 := sealed_split hb.1.2.1 hb.2
      rw [h1] at h2
      rw [(List.cons.inj h2).1]
theorem opened_long {s : ByteArray} (h : 4000 < s.size) : Opened s none := fun t ht e => by
  have h1 := ht.2.2
  rw [e] at h1
  have e2 : s.data.toList.length = s.size := by simp
  omega
theorem opened_parts {s : ByteArray} (h : (splitS s 35).length ≠ 2) : Opened s none := fun t ht e => h (by rw [sealed_split ht.2.1 e]; rfl)
theorem opened_first {s t : ByteArray} {r : List ByteArray} (hs : splitS s 35 = t :: r) (h : ¬ (CanSeal t ∧ sealed t.data.toList = s.data.toList)) : Opened s none := fun u hu e => by
  have h1 := sealed_split hu.2.1 e
  rw [hs] at h1
  have h2 := (List.cons.inj h1).1
  subst h2
  exact h ⟨hu, e⟩
theorem opened_some {s t : ByteArray} {r : List ByteArray} (hz : s.size ≤ 4000) (hs : splitS s 35 = t :: r) (h : sealed t.data.toList = s.data.toList) : CanSeal t := by
  have h1 : (35 : UInt8) ∉ t.data.toList := fun hb => splitS_has s 35 ⟨t, by rw [hs]; simp, hb⟩
  have h2 : (sealed t.data.toList).length = s.size := by rw [h]; simp
  have h3 : t.data.toList.length = t.size := by simp
  rw [sealed_len] at h2
  exact ⟨by omega, h1, by rw [h]; simpa using hz⟩

/-- How VerifyChecksum answers. -/
def answer (r : Option ByteArray) : Value := .tuple #[.string (r.getD ⟨#[]⟩), .bool r.isSome]

theorem row_cells {w : World} {base n cap g : Nat} {xs : List ByteArray} (h : w.ownsRow base 9 1 (.slice (some ⟨g, 0, none⟩) n cap) n (xs.map Value.string)) (j : Nat) (x : ByteArray) (hx : xs[j]? = some x) : w.cell? ⟨g, 0 + j, none⟩ = some (.string x) := by
  have := h.cells (g := g) rfl j (.string x) (by simp [hx])
  rwa [Addr.add_lit] at this

/-! ### The program's -/
theorem ver_long (s : ByteArray) (w : World) (hm : s.size ≤ maxLen) (h : 4000 < s.size) :
    Calls Tryd.prog 18 #[.string s] w fun e w' => e = .returned (.tuple #[.string ⟨#[]⟩, .bool false]) ∧ Below w.heap.size w w' := by
  have A := Lib.hid (split_long s ⟨#[35]⟩ w hm h)
  clear h hm
  go_enter Tryd.func18, Tryd.ntmps18
  go_wp2_with fail
  refine A.out.mono ?_
  rintro e w' ⟨rfl, rfl⟩
  go_wp2
  go_ret2
  exact ⟨rfl, (Below.refl _ _).alloc (Nat.le_refl _) _⟩

theorem ver_parts (s : ByteArray) (w : World) (h : s.size ≤ 4000) (h2 : (splitS s 35).length ≠ 2) :
    Calls Tryd.prog 18 #[.string s] w fun e w' => e = .returned (.tuple #[.string ⟨#[]⟩, .bool false]) ∧ Below w.heap.size w w' := by
  have A := Lib.hid (split_ok s 35 h w)
  have hl := (splitS_len s 35)
  generalize hxs : splitS s 35 = xs at A h2 hl
  clear hxs
  have n1 : ((xs.length : Int) == 2) = false := beq_false_of_ne (by omega)
  have n2 : ((xs.length : Int) != 2) = true := by rw [bne, n1]; rfl
  have l1 : xs.length ≤ 4001 := by omega
  have l0 : 1 ≤ xs.length := hl.1
  clear h h2 hl
  go_enter Tryd.func18, Tryd.ntmps18
  go_wp2_with fail
  refine A.out.mono ?_
  rintro e w' ⟨v, rfl, hrow, hb⟩
  have HB := Lib.hid hb
  obtain ⟨g, cap, rfl⟩ : ∃ g cap, v = .slice (some ⟨g, 0, none⟩) xs.length cap := by
    rcases hrow.2 with ⟨_, h0⟩ | ⟨g, cap, _, rfl, _⟩
    · omega
    · exact ⟨g, cap, rfl⟩
  clear hb hrow
  go_wp2
  go_ret2
  exact ⟨rfl, HB.out⟩

theorem ver_two (s t u : ByteArray) (w : World) (hP : Pow w) (h : s.size ≤ 4000) (hs : splitS s 35 = [t, u]) (r : Option ByteArray) (hr : Opened s r) :
    Calls Tryd.prog 18 #[.string s] w fun e w' => e = .returned (answer r) ∧ Below w.heap.size w w' := by
  have hA := split_ok s 35 h w
  rw [hs] at hA
  have A := Lib.hid hA
  have HP := Lib.hid hP
  have hts : t.size ≤ maxLen := by
    have h1 := splitS_joined s 35
    rw [hs, pair_joined] at h1
    have h2 := congrArg List.length h1
    simp at h2
    unfold maxLen; omega
  by_cases hc : CanSeal t
  · by_cases he : (⟨(sealed t.data.toList).toArray⟩ : ByteArray) = s
    · have e2 : sealed t.data.toList = s.data.toList := by rw [← he]
      obtain rfl : r = some t := hr.same (b := some t) ⟨hc, e2⟩
      have HE := Lib.hid he
      have HC := Lib.hid hc
      clear hA hs hr hP e2 hts h he hc
      go_enter Tryd.func18, Tryd.ntmps18
      go_wp2_with fail
      refine A.out.mono ?_
      rintro e w1 ⟨v, rfl, hrow, hb⟩
      have HB := Lib.hid hb
      obtain ⟨g, cap, rfl⟩ : ∃ g cap, v = .slice (some ⟨g, 0, none⟩) 2 cap := by
        rcases hrow.2 with ⟨_, h0⟩ | ⟨g, cap, _, rfl, _⟩
        · simp at h0
        · exact ⟨g, cap, rfl⟩
      have hcell : w1.cell? ⟨g, 0, none⟩ = some (.string t) := row_cells (n := 2) (xs := [t, u]) hrow 0 t rfl
      have HCell := Lib.hid hcell
      clear hb hrow
      go_wp2_with fail
      refine (implSeal_yes t _ (pow_stays HP.out HB.out (Nat.le_refl _)) HC.out).mono ?_
      rintro e w2 ⟨rfl, hb2⟩
      have hcell2 : w2.cell? ⟨g, 0, none⟩ = some (.string t) := (hb2.cell (World.block_lt_of_cell? _ _ HCell.out)).trans HCell.out
      have HB2 := Lib.hid (HB.out.trans (hb2.mono HB.out.size))
      clear hb2 hcell
      rw [HE.out]
      go_wp2
      go_ret2
      exact ⟨rfl, HB2.out⟩
    · have e2 : ¬ sealed t.data.toList = s.data.toList := fun e => he (by rw [e])
      obtain rfl : r = none := hr.same (opened_first hs (fun h => e2 h.2))
      have HC := Lib.hid hc
      generalize hy : (⟨(sealed t.data.toList).toArray⟩ : ByteArray) = y at he
      have HY := Lib.hid hy
      have hne := str_ne he
      clear hA hs hr hP e2 hts h he hc hy
      go_enter Tryd.func18, Tryd.ntmps18
      go_wp2_with fail
      refine A.out.mono ?_
      rintro e w1 ⟨v, rfl, hrow, hb⟩
      have HB := Lib.hid hb
      obtain ⟨g, cap, rfl⟩ : ∃ g cap, v = .slice (some ⟨g, 0, none⟩) 2 cap := by
        rcases hrow.2 with ⟨_, h0⟩ | ⟨g, cap, _, rfl, _⟩
        · simp at h0
        · exact ⟨g, cap, rfl⟩
      have hcell : w1.cell? ⟨g, 0, none⟩ = some (.string t) := row_cells (n := 2) (xs := [t, u]) hrow 0 t rfl
      clear hb hrow
      go_wp2_with fail
      refine (implSeal_yes t _ (pow_stays HP.out HB.out (Nat.le_refl _)) HC.out).mono ?_
      rintro e w2 ⟨rfl, hb2⟩
      have HB2 := Lib.hid (HB.out.trans (hb2.mono HB.out.size))
      clear hb2 hcell
      rw [HY.out]
      go_wp2
      go_ret2
      exact ⟨rfl, HB2.out⟩
  · obtain rfl : r = none := hr.same (opened_first hs (fun h => hc h.1))
    have HC := Lib.hid hc
    have HT := Lib.hid hts
    clear hA hs hr hP h hc hts
    go_enter Tryd.func18, Tryd.ntmps18
    go_wp2_with fail
    refine A.out.mono ?_
    rintro e w1 ⟨v, rfl, hrow, hb⟩
    have HB := Lib.hid hb
    obtain ⟨g, cap, rfl⟩ : ∃ g cap, v = .slice (some ⟨g, 0, none⟩) 2 cap := by
      rcases hrow.2 with ⟨_, h0⟩ | ⟨g, cap, _, rfl, _⟩
      · simp at h0
      · exact ⟨g, cap, rfl⟩
    have hcell : w1.cell? ⟨g, 0, none⟩ = some (.string t) := row_cells (n := 2) (xs := [t, u]) hrow 0 t rfl
    clear hb hrow
    go_wp2_with fail
    refine (implSeal_no t _ (pow_stays HP.out HB.out (Nat.le_refl _)) HT.out HC.out).mono ?_
    rintro e w2 ⟨rfl, hb2⟩
    have HB2 := Lib.hid (HB.out.trans (hb2.mono HB.out.size))
    clear hb2 hcell
    go_wp2
    go_ret2
    exact ⟨rfl, HB2.out⟩

/-- VerifyChecksum of the program at every text. -/
theorem implVerify (s : ByteArray) (w : World) (hP : Pow w) (hm : s.size ≤ maxLen) (r : Option ByteArray) (hr : Opened s r) :
    Calls Tryd.prog 18 #[.string s] w fun e w' => e = .returned (answer r) ∧ Below w.heap.size w w' := by
  by_cases h : s.size ≤ 4000
  · by_cases h2 : (splitS s 35).length = 2
    · obtain ⟨t, u, htu⟩ : ∃ t u, splitS s 35 = [t, u] := by
        match hx : splitS s 35, h2 with
        | [t, u], _ => exact ⟨t, u, rfl⟩
      exact ver_two s t u w hP h htu r hr
    · obtain rfl := hr.same (opened_parts h2)
      exact ver_parts s w h h2
  · obtain rfl := hr.same (opened_long (by omega))
    exact ver_long s w hm (by omega)

/-! ### The model's -/
theorem sver_long (s : ByteArray) (w : World) (hm : s.size ≤ maxLen) (h : 4000 < s.size) :
    Calls Tryd.prog 20 #[.string s] w fun e w' => e = .returned (.tuple #[.string ⟨#[]⟩, .bool false]) ∧ Below w.heap.size w w' := by
  unfold maxLen at hm
  go_enter Tryd.func20, Tryd.ntmps20
  go_wp2
  go_ret2
  exact ⟨rfl, Below.refl _ _⟩
theorem sver_short (s t : ByteArray) (q : List ByteArray) (w : World) (h : s.size ≤ 4000) (hs : splitS s 35 = t :: q) (r : Option ByteArray) (hr : Opened s r) :
    Calls Tryd.prog 20 #[.string s] w fun e w' => e = .returned (answer r) ∧ Below w.heap.size w w' := by
  have hA : Calls Tryd.prog 36 #[.string s, .int .u8 35] w (SplitPost s 35 w) := l1Split_any s 35 w (by omega)
  have A := Lib.hid hA
  have hts : t.size ≤ 1048576 := by
    have h1 := splitS_joined s 35
    rw [hs] at h1
    have h3 : (joined (t :: q) 35).length + 1 = tot (t :: q) := joined_len _ _ (by simp)
    have h2 := congrArg List.length h1
    simp at h2
    simp only [tot, List.map_cons, List.sum_cons] at h3
    omega
  have HT := Lib.hid hts
  have HQ : Hid (splitS s 35 = t :: q) := hs
  clear hA hts
  by_cases he : (⟨(sealed t.data.toList).toArray⟩ : ByteArray) = s
  · have e2 : sealed t.data.toList = s.data.toList := by rw [← he]
    obtain rfl : r = some t := hr.same (b := some t) ⟨opened_some h hs e2, e2⟩
    have HE := Lib.hid he
    clear hs hr e2 he
    go_enter Tryd.func20, Tryd.ntmps20
    go_wp2_with fail
    refine A.out.mono ?_
    rintro e w1 ⟨v, rfl, hrow, hb⟩
    have HB := Lib.hid hb
    rw [HQ.out] at hrow
    obtain ⟨g, cap, rfl⟩ : ∃ g cap, v = .slice (some ⟨g, 0, none⟩) (t :: q).length cap := by
      rcases hrow.2 with ⟨_, h0⟩ | ⟨g, cap, _, rfl, _⟩
      · simp at h0
      · exact ⟨g, cap, rfl⟩
    have hcell : w1.cell? ⟨g, 0, none⟩ = some (.string t) := row_cells (xs := t :: q) hrow 0 t rfl
    have hlen : (0 : Int) < ((q.length : Int) + 1) := by omega
    clear hb hrow
    go_wp2_with fail
    refine (l1Seal_any t _ HT.out).mono ?_
    rintro e w2 ⟨rfl, k, rfl⟩
    rw [HE.out]
    go_wp2
    go_ret2
    exact ⟨rfl, HB.out.trans (below_draws _ _ _)⟩
  · have e2 : ¬ sealed t.data.toList = s.data.toList := fun e => he (by rw [e])
    obtain rfl : r = none := hr.same (opened_first hs (fun h => e2 h.2))
    generalize hy : (⟨(sealed t.data.toList).toArray⟩ : ByteArray) = y at he
    have HY := Lib.hid hy
    have hne := str_ne he
    clear hs hr e2 he hy
    go_enter Tryd.func20, Tryd.ntmps20
    go_wp2_with fail
    refine A.out.mono ?_
    rintro e w1 ⟨v, rfl, hrow, hb⟩
    have HB := Lib.hid hb
    rw [HQ.out] at hrow
    obtain ⟨g, cap, rfl⟩ : ∃ g cap, v = .slice (some ⟨g, 0, none⟩) (t :: q).length cap := by
      rcases hrow.2 with ⟨_, h0⟩ | ⟨g, cap, _, rfl, _⟩
      · simp at h0
      · exact ⟨g, cap, rfl⟩
    have hcell : w1.cell? ⟨g, 0, none⟩ = some (.string t) := row_cells (xs := t :: q) hrow 0 t rfl
    have hlen : (0 : Int) < ((q.length : Int) + 1) := by omega
    clear hb hrow
    go_wp2_with fail
    refine (l1Seal_any t _ HT.out).mono ?_
    rintro e w2 ⟨rfl, k, rfl⟩
    rw [HY.out]
    go_wp2
    go_ret2
    exact ⟨rfl, HB.out.trans (below_draws _ _ _)⟩
theorem specVerify (s : ByteArray) (w : World) (hm : s.size ≤ maxLen) (r : Option ByteArray) (hr : Opened s r) :
    Calls Tryd.prog 20 #[.string s] w fun e w' => e = .returned (answer r) ∧ Below w.heap.size w w' := by
  by_cases h : s.size ≤ 4000
  · cases hx : splitS s 35 with
    | nil => have := (splitS_len s 35).1; rw [hx] at this; simp at this
    | cons t q => exact sver_short s t q w h hx r hr
  · obtain rfl := hr.same (opened_long (by omega))
    exact sver_long s w hm (by omega)
theorem opened_ex (s : ByteArray) : ∃ r, Opened s r := by
  by_cases h : ∃ t, CanSeal t ∧ sealed t.data.toList = s.data.toList
  · obtain ⟨t, ht⟩ := h
    exact ⟨some t, ht⟩
  · exact ⟨none, fun t h1 h2 => h ⟨t, h1, h2⟩⟩
end Go.Proofs.YtppiocjmhlgjoaaDoor
