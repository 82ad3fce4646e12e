/-
  Contract of the model's JoinStrings, at every list of texts in memory. Used by the claims on JoinStrings and FnSplitJoin.
-/
import Derived.Test.YtppiocjmhlgjoaaTextsW
import Derived.Test.YtppiocjmhlgjoaaOpenL
namespace Go.Proofs.Ytppiocjmhlgjoaa
open Go.RowKit
set_option linter.unusedVariables false

theorem joined_nil (b : UInt8) : joined [] b = [] := rfl
theorem joined_one (x : ByteArray) (b : UInt8) : joined [x] b = x.data.toList := by simp [joined, Lib.join_one]
theorem joined_snoc (xs : List ByteArray) (x : ByteArray) (b : UInt8) (h : xs ≠ []) : joined (xs ++ [x]) b = joined xs b ++ b :: x.data.toList := by
  obtain ⟨ys, z, rfl⟩ : ∃ ys z, xs = ys ++ [z] := ⟨xs.dropLast, xs.getLast h, (List.dropLast_concat_getLast h).symm⟩
  unfold joined
  rw [List.map_append, List.map_cons, List.map_nil, join_snoc, List.map_append, List.map_cons, List.map_nil, join_snoc]
  simp
theorem joined_take (xs : List ByteArray) (b : UInt8) (k : Nat) (x : ByteArray) (hk : 0 < k) (hx : xs[k]? = some x) : joined (xs.take (k + 1)) b = joined (xs.take k) b ++ b :: x.data.toList := by
  rw [List.take_add_one, hx]
  refine joined_snoc _ x b (fun e => ?_)
  have := (List.getElem?_eq_some_iff.1 hx).1
  have h2 : (xs.take k).length = 0 := by rw [e]; rfl
  rw [List.length_take] at h2
  omega
theorem cat_three (o l : List UInt8) (b : UInt8) (x : ByteArray) : ((⟨o.toArray⟩ : ByteArray) ++ ⟨#[b]⟩) ++ x = ⟨(o ++ b :: x.data.toList).toArray⟩ := by
  apply ByteArray.ext; apply Array.toList_inj.1; simp

theorem sjoin_none (a : Option Addr) (c : Nat) (sep : ByteArray) (w : World) (hm : sep.size ≤ maxLen) :
    Calls Try.prog 13 #[.slice a 0 c, .string sep] w fun e w' => e = .returned (.tuple #[.string ⟨#[]⟩, .bool false]) ∧ Below w.heap.size w w' := by
  unfold maxLen at hm
  by_cases h : sep.size = 1
  · have n1 : ((sep.size : Int) == 1) = true := by rw [h]; rfl
    have n2 : ((sep.size : Int) != 1) = false := by rw [h]; rfl
    clear h
    go_enter Try.func13, Try.ntmps13
    go_wp2
    go_ret2
    exact ⟨rfl, Below.refl _ _⟩
  · have n1 : ((sep.size : Int) == 1) = false := beq_false_of_ne (by omega)
    have n2 : ((sep.size : Int) != 1) = true := by rw [bne, n1]; rfl
    clear h
    go_enter Try.func13, Try.ntmps13
    go_wp2
    go_ret2
    exact ⟨rfl, Below.refl _ _⟩
theorem sjoin_sep (a : Option Addr) (n c : Nat) (sep : ByteArray) (w : World) (hm : sep.size ≤ maxLen) (h : sep.size ≠ 1) :
    Calls Try.prog 13 #[.slice a n c, .string sep] w fun e w' => e = .returned (.tuple #[.string ⟨#[]⟩, .bool false]) ∧ Below w.heap.size w w' := by
  unfold maxLen at hm
  have n1 : ((sep.size : Int) == 1) = false := beq_false_of_ne (by omega)
  have n2 : ((sep.size : Int) != 1) = true := by rw [bne, n1]; rfl
  clear h
  go_enter Try.func13, Try.ntmps13
  go_wp2
  go_ret2
  exact ⟨rfl, Below.refl _ _⟩

/-- How the model's JoinStrings ends at a list that is not empty and a separator of one byte. -/
def JoinPost (xs : List ByteArray) (s : UInt8) (w : World) (e : Ending) (w' : World) : Prop :=
  ((¬ Has s xs ∧ tot xs ≤ 4001 ∧ e = .returned (.tuple #[.string ⟨(joined xs s).toArray⟩, .bool true])) ∨ ((Has s xs ∨ 4001 < tot xs) ∧ e = .returned (.tuple #[.string ⟨#[]⟩, .bool false]))) ∧ Below w.heap.size w w'

theorem sjoin_any (a : Option Addr) (b o c : Nat) (xs : List ByteArray) (s : UInt8) (w : World) (hs : Src w a b o xs) (h0 : 0 < xs.length) (hl : xs.length ≤ 1048576) (hm : ∀ x ∈ xs, x.size ≤ 1048576) :
    Calls Try.prog 13 #[.slice a xs.length c, .string ⟨#[s]⟩] w (JoinPost xs s w) := by
  obtain rfl := hs.1 h0
  have HC := Lib.hid hs.2
  have HM := Lib.hid hm
  have n1 : ((xs.length : Int) == 0) = false := beq_false_of_ne (by omega)
  clear hs hm
  go_enter Try.func13, Try.ntmps13
  go_wp2
  go_loopw [6, 7] (fun t v wr => ∃ (k : Nat) (l : List UInt8), v = .int .i64 k ∧ k ≤ xs.length ∧ t = .string ⟨l.toArray⟩ ∧ l.length ≤ 4000 ∧ Hid (l = joined (xs.take k) s) ∧ Hid (¬ Has s (xs.take k)) ∧ Hid (∀ p : Addr, wr.cell? p = w.cell? p) ∧ Hid (Below w.heap.size w wr)) (fun _ v _ => xs.length - (intOf v).toNat)
  case atStart => exact ⟨0, [], rfl, Nat.zero_le _, rfl, Nat.zero_le _, rfl, by show ¬ _; simp [Has], fun _ => rfl, Below.refl _ _⟩
  case round =>
    obtain ⟨k, l, rfl, hk, rfl, hll, HL, HN, HW, HB⟩ := hrel
    by_cases hlt : k < xs.length
    · have hcell := (HW.out _).trans (HC.out k _ (List.getElem?_eq_getElem hlt))
      have hxm := HM.out _ (List.getElem_mem hlt)
      have HX := Lib.hid (List.getElem?_eq_getElem hlt)
      generalize xs[k] = x at hcell hxm HX
      have i0 : (0 : Int) ≤ (k : Int) := by omega
      have i1 : (k : Int) < (xs.length : Int) := by omega
      by_cases hst : s ∈ x.data.toList
      · have HST := Lib.hid (fun w => stands_yes x s w (by unfold maxLen; omega) hst)
        have HH : Hid (Has s xs) := Lib.hid ⟨x, List.mem_of_getElem? HX.out, hst⟩
        clear hst
        go_wp2
        go_quiet ((go_at_call 33; exact Calls.quiet_of_same (HST.out _)))
        go_wp2
        go_ret2
        exact ⟨.inr ⟨.inl HH.out, rfl⟩, HB.out.trans ⟨rfl, rfl, rfl, Nat.le_refl _, fun _ _ => rfl⟩⟩
      · have HST := Lib.hid (fun w => stands_no x s w (by unfold maxLen; omega) hst)
        have HN2 : Hid (¬ Has s (xs.take (k + 1))) := Lib.hid (by
          rw [List.take_add_one, HX.out]
          rintro ⟨y, hy, hb⟩
          rcases List.mem_append.1 hy with hy | hy
          · exact HN.out ⟨y, hy, hb⟩
          · simp at hy; subst hy; exact hst hb)
        clear hst
        by_cases hk0 : k = 0
        · subst hk0
          have hc0 : wr.cell? ⟨b, o, none⟩ = some (.string x) := by simpa using hcell
          clear hcell i0 i1
          have hnil : l = [] := by rw [HL.out]; rfl
          subst hnil
          have HS : Hid ((⟨#[]⟩ : ByteArray) ++ x = ⟨x.data.toList.toArray⟩) := by
            show _ = _
            apply ByteArray.ext; apply Array.toList_inj.1; simp
          have HJ : Hid (x.data.toList = joined (xs.take (0 + 1)) s) := by
            show _ = _
            rw [List.take_add_one, HX.out]; simp [joined_one]
          by_cases h4 : x.size ≤ 4000
          · go_wp2
            go_quiet ((go_at_call 33; exact Calls.quiet_of_same (HST.out _)))
            go_wp2
            go_roundw
            case rel => exact ⟨1, x.data.toList, rfl, by omega, by rw [HS.out], by simpa using h4, HJ, HN2, fun p => HW.out p, HB.out.trans ⟨rfl, rfl, rfl, Nat.le_refl _, fun _ _ => rfl⟩⟩
            case measure => simp [intOf]; omega
          · have HF : Hid (4001 < tot xs) := Lib.hid (by
              have h1 := tot_take_succ xs 0 x HX.out
              have h2 := tot_take_le xs (0 + 1)
              omega)
            go_wp2
            go_quiet ((go_at_call 33; exact Calls.quiet_of_same (HST.out _)))
            go_wp2
            go_ret2
            exact ⟨.inr ⟨.inr HF.out, rfl⟩, HB.out.trans ⟨rfl, rfl, rfl, Nat.le_refl _, fun _ _ => rfl⟩⟩
        · have hkp : 0 < k := by omega
          have HJ : Hid (l ++ s :: x.data.toList = joined (xs.take (k + 1)) s) := by
            show _ = _
            rw [joined_take xs s k x hkp HX.out, ← HL.out]
          have HS : Hid (((⟨l.toArray⟩ : ByteArray) ++ ⟨#[s]⟩) ++ x = ⟨(l ++ s :: x.data.toList).toArray⟩) := cat_three l [] s x
          have p1 : ¬ 9223372036854775807 < l.length + 1 := by omega
          have p2 : ¬ 9223372036854775807 < l.length + 1 + x.size := by omega
          have HK := Lib.hid hk0
          clear hk0
          by_cases h4 : l.length + 1 + x.size ≤ 4000
          · go_wp2
            go_quiet ((go_at_call 33; exact Calls.quiet_of_same (HST.out _)))
            go_wp2
            go_roundw
            case rel => exact ⟨k + 1, l ++ s :: x.data.toList, by go_num, by omega, by rw [HS.out], by simp; omega, HJ, HN2, fun p => HW.out p, HB.out.trans ⟨rfl, rfl, rfl, Nat.le_refl _, fun _ _ => rfl⟩⟩
            case measure => simp [intOf]; omega
          · have HF : Hid (4001 < tot xs) := Lib.hid (by
              have h1 := tot_take_le xs (k + 1)
              have h2 := joined_len (xs.take (k + 1)) s (by
                intro e
                have h2 : (xs.take (k + 1)).length = 0 := by rw [e]; rfl
                rw [List.length_take] at h2
                omega)
              rw [← HJ.out] at h2
              simp at h2
              omega)
            go_wp2
            go_quiet ((go_at_call 33; exact Calls.quiet_of_same (HST.out _)))
            go_wp2
            go_ret2
            exact ⟨.inr ⟨.inr HF.out, rfl⟩, HB.out.trans ⟨rfl, rfl, rfl, Nat.le_refl _, fun _ _ => rfl⟩⟩
    · obtain rfl : k = xs.length := by omega
      have HE : Hid (l = joined xs s ∧ ¬ Has s xs ∧ tot xs ≤ 4001) := by
        have h1 := HL.out
        have h2 := HN.out
        rw [List.take_length] at h1 h2
        have h3 := joined_len xs s (by rintro rfl; simp at h0)
        rw [← h1] at h3
        exact ⟨h1, h2, by omega⟩
      go_wp2
      go_ret2
      exact ⟨.inl ⟨HE.out.2.1, HE.out.2.2, by rw [HE.out.1]; rfl⟩, HB.out⟩

theorem src_lt {w : World} {a : Option Addr} {b o : Nat} {xs : List ByteArray} (h : Src w a b o xs) (h0 : 0 < xs.length) : b < w.heap.size :=
  World.block_lt_of_cell? w ⟨b, o + 0, none⟩ (h.2 0 _ (List.getElem?_eq_getElem h0))
theorem src_of_holds {w : World} {g : Nat} {xs : List ByteArray} (h : Holds w g xs) : Src w (some ⟨g, 0, none⟩) g 0 xs := ⟨fun _ => rfl, fun j x hx => by rw [Nat.zero_add]; exact h j x hx⟩

/-- How either JoinStrings answers. -/
def Joins (r : ByteArray) (ok : Bool) (w : World) (e : Ending) (w' : World) : Prop := e = .returned (.tuple #[.string r, .bool ok]) ∧ Below w.heap.size w w'

/-- Both answer alike, at every list of texts that lies in memory. -/
theorem join_both (xs : List ByteArray) (sep : ByteArray) (hl : xs.length + bulk xs ≤ 1048576) (hm : sep.size ≤ maxLen) :
    ∃ r ok, (∀ w a b o c, Src w a b o xs → Calls Try.prog 13 #[.slice a xs.length c, .string sep] w (Joins r ok w)) ∧ (∀ w a b o c, Src w a b o xs → xs.length ≤ c → Calls Try.prog 12 #[.slice a xs.length c, .string sep] w (Joins r ok w)) := by
  have hsz : ∀ x ∈ xs, x.size ≤ 1048576 := fun x hx => by
    obtain ⟨j, hj, hjx⟩ := List.getElem_of_mem hx
    have := size_le_bulk xs j x (by rw [List.getElem?_eq_getElem hj, hjx])
    omega
  have hsz2 : ∀ x ∈ xs, x.size ≤ maxLen := fun x hx => by have := hsz x hx; unfold maxLen; omega
  have hl2 : xs.length ≤ maxLen := by unfold maxLen; omega
  by_cases h0 : xs.length = 0
  · refine ⟨⟨#[]⟩, false, fun w a b o c hs => ?_, fun w a b o c hs _ => ?_⟩
    · rw [h0]; exact sjoin_none a c sep w hm
    · rw [h0]; exact (join_none a c sep w).mono fun e w' ⟨he, hw⟩ => ⟨he, by rw [hw]; exact Below.refl _ _⟩
  · by_cases h1 : sep.size = 1
    · obtain ⟨s, rfl⟩ : ∃ b, sep = ⟨#[b]⟩ := by
        obtain ⟨⟨l⟩⟩ := sep
        match l, h1 with
        | [b], _ => exact ⟨b, rfl⟩
      by_cases hg : ¬ Has s xs ∧ tot xs ≤ 4001
      · refine ⟨⟨(joined xs s).toArray⟩, true, fun w a b o c hs => ?_, fun w a b o c hs hc => ?_⟩
        · refine (sjoin_any a b o c xs s w hs (by omega) (by omega) hsz).mono ?_
          rintro e w' ⟨⟨_, _, rfl⟩ | ⟨h3 | h3, _⟩, hb⟩
          · exact ⟨rfl, hb⟩
          · exact absurd h3 hg.1
          · exact absurd h3 (by omega)
        · exact join_ok a b o c xs s w hs.1 hs.2 (src_lt hs (by omega)) hc (by omega) hg.2 hg.1
      · refine ⟨⟨#[]⟩, false, fun w a b o c hs => ?_, fun w a b o c hs hc => ?_⟩
        · refine (sjoin_any a b o c xs s w hs (by omega) (by omega) hsz).mono ?_
          rintro e w' ⟨⟨h2, h3, _⟩ | ⟨_, rfl⟩, hb⟩
          · exact absurd ⟨h2, h3⟩ hg
          · exact ⟨rfl, hb⟩
        · by_cases ht : tot xs ≤ 4001
          · have hh : Has s xs := Classical.byContradiction fun h => hg ⟨h, ht⟩
            exact (join_has a b o c xs s w hs.1 hs.2 hsz2 hl2 (by omega) ht hh).mono fun e w' ⟨he, hw⟩ => ⟨he, by rw [hw]; exact Below.refl _ _⟩
          · exact (join_far a b o c xs s w hs.1 hs.2 hsz2 hl2 (by omega) (by omega)).mono fun e w' ⟨he, hw⟩ => ⟨he, by rw [hw]; exact Below.refl _ _⟩
    · refine ⟨⟨#[]⟩, false, fun w a b o c hs => sjoin_sep a _ c sep w hm h1, fun w a b o c hs _ => ?_⟩
      exact (join_sep a _ c sep w (by omega) hl2 h1 hm).mono fun e w' ⟨he, hw⟩ => ⟨he, by rw [hw]; exact Below.refl _ _⟩

/-- What the walk is told of a slice of texts that came in: nil, or a row of cap cells. -/
def IsTexts (w : World) (a : Option Addr) (len cap : Nat) (ss : List ByteArray) : Prop :=
  (a = none ∧ len = 0 ∧ cap = 0 ∧ ss = []) ∨
  ∃ x, a = some x ∧ len ≤ cap ∧ cap ≤ maxLen ∧ ss.length = cap ∧ (∀ i, i < ss.length → w.cell? (x.add i) = some (.string (ss.getD i ByteArray.empty))) ∧ ∀ s ∈ ss, s.size ≤ maxLen
theorem isTexts_src {w : World} {a : Option Addr} {len cap : Nat} {ss : List ByteArray} (h : IsTexts w a len cap ss) : ∃ xs b o, len = xs.length ∧ Src w a b o xs ∧ (∀ x ∈ xs, x.size ≤ maxLen) ∧ xs.length ≤ maxLen := by
  rcases h with ⟨rfl, rfl, rfl, rfl⟩ | ⟨x, rfl, hlc, hcm, hz, hcell, hsz⟩
  · exact ⟨[], 0, 0, rfl, ⟨fun h => by simp at h, fun j x hx => by simp at hx⟩, fun x hx => by simp at hx, by simp⟩
  · have hlen : (ss.take len).length = len := by rw [List.length_take]; omega
    obtain ⟨b, off, spot⟩ := x
    refine ⟨ss.take len, b, off, hlen.symm, ⟨fun h0 => ?_, fun j x hx => ?_⟩, fun x hx => hsz x (List.mem_of_mem_take hx), by omega⟩
    · have hc := hcell 0 (by omega)
      have hspot : spot = none := by simpa [Addr.add] using World.cell?_spot hc
      rw [hspot]
    · have hj : j < (ss.take len).length := (List.getElem?_eq_some_iff.1 hx).1
      have hc := hcell j (by omega)
      have hc0 := hcell 0 (by omega)
      have hspot : spot = none := by simpa [Addr.add] using World.cell?_spot hc0
      subst hspot
      rw [Addr.add_lit] at hc
      rw [hc]
      have h2 : ss[j]? = some x := by
        rw [List.getElem?_take_of_lt (by omega)] at hx; exact hx
      rw [List.getD_eq_getElem?_getD, h2]; rfl
end Go.Proofs.Ytppiocjmhlgjoaa
