/-
  BestGuess, the program's and the model's: both answer alike. Used by the claims on chapter 7.
-/
import Derived.Test.YtomhjfjfmjacfaaSntB
import Derived.Laws.StructEq
namespace Go.Proofs.Ytomhjfjfmjacfaa
open Go.RowKit
set_option linter.unusedVariables false

/-! ### Plain -/
def gD (ps : List Nat) (k : Nat) : Nat := ps.getD k 0
theorem gD_at {ps : List Nat} {k : Nat} (h : k < ps.length) : gD ps k = ps[k] := by simp [gD, List.getD_eq_getElem?_getD, List.getElem?_eq_getElem h]
/-- The first place of the greatest one of the first k. -/
def bgTo (ps : List Nat) : Nat → Nat
  | 0 => 0
  | k + 1 => if gD ps (bgTo ps k) < gD ps k then k else bgTo ps k
theorem bgTo_lt (ps : List Nat) : ∀ k, 0 < k → bgTo ps k < k
  | 0, h => by omega
  | k + 1, _ => by
    unfold bgTo
    split
    · omega
    · rcases Nat.eq_zero_or_pos k with e | e
      · subst e; simp [bgTo]
      · have := bgTo_lt ps k e; omega
theorem bgTo_le (ps : List Nat) : ∀ k j, j < k → gD ps j ≤ gD ps (bgTo ps k)
  | 0, j, h => by omega
  | k + 1, j, h => by
    unfold bgTo
    split
    · rename_i hlt
      rcases Nat.lt_or_ge j k with h2 | h2
      · have := bgTo_le ps k j h2; omega
      · obtain rfl : j = k := by omega
        exact Nat.le_refl _
    · rename_i hge
      rcases Nat.lt_or_ge j k with h2 | h2
      · exact bgTo_le ps k j h2
      · obtain rfl : j = k := by omega
        omega
theorem bgTo_first (ps : List Nat) : ∀ k j, j < bgTo ps k → gD ps j < gD ps (bgTo ps k)
  | 0, j, h => by simp [bgTo] at h
  | k + 1, j, h => by
    unfold bgTo at h ⊢
    split
    · rename_i hlt
      rw [if_pos hlt] at h
      have := bgTo_le ps k j h; omega
    · rename_i hge
      rw [if_neg hge] at h
      exact bgTo_first ps k j h
theorem bgTo_zero {ps : List Nat} (h : ps.sum = 0) (k : Nat) : bgTo ps k = 0 := by
  rcases Nat.eq_zero_or_pos (bgTo ps k) with e | e
  · exact e
  · have h1 := bgTo_first ps k 0 e
    have h2 : gD ps (bgTo ps k) ≤ ps.sum := by
      by_cases hl : bgTo ps k < ps.length
      · have e1 := sum_take_succ (List.getElem?_eq_getElem hl)
        have e2 := sum_take_le ps (bgTo ps k + 1)
        rw [gD_at hl]; omega
      · unfold gD
        rw [List.getD_eq_getElem?_getD, List.getElem?_eq_none (by omega)]
        exact Nat.zero_le _
    omega
theorem cut_inj {a c S : Nat} (hS : 0 < S) (h : cutN a S = cutN c S) : a = c := by
  have h1 := cut_cross (a := a) hS
  have h2 := cut_cross (a := c) hS
  rw [h] at h1
  rw [h1] at h2
  exact Nat.eq_of_mul_eq_mul_right (cut_pos (a := c) hS) h2
def bgR (N d : Int) (xs : List ByteArray) (y : ByteArray) : Nat := if csOk N d xs y = true then bgTo (snL N.toNat (d - N).toNat xs (bl y)) xs.length else 0

/-! ### The model's -/
set_option maxHeartbeats 4000000 in
set_option maxRecDepth 20000 in
theorem sBestGuess_any (a : Option Addr) (b o c : Nat) (xs : List ByteArray) (N d : Int) (y : ByteArray) (w : World) (h : ListIn w a b o xs) (hy : y.size ≤ maxLen) :
    Calls Try.prog 36 #[.agg #[.slice a xs.length c], .agg #[.int .i64 N, .int .i64 d], .string y] w fun e w' => e = .returned (.tuple #[.int .i64 (bgR N d xs y : Int), .bool (csOk N d xs y)]) ∧ Below w.heap.size w w' := by
  have HC := Lib.hid (carT_new w a b o c xs N d h)
  have F1 := Lib.hid fun W h => stable_any a b o c xs W h
  have F2 := Lib.hid fun W => sGood_any N d W
  have F3 := Lib.hid fun W => smarksB_any y W hy
  have l1 := HC.out.tab
  cases ht : tableB xs with
  | false =>
    obtain ⟨e1, e2⟩ := cs_no (N := N) (d := d) (xs := xs) (y := y) (by unfold csB; rw [ht]; rfl)
    have e3 : bgR N d xs y = 0 := by unfold bgR; rw [if_neg (by rw [e1]; decide)]
    have F1 := Lib.hid fun W h => val_eqF (v' := .bool false) (F1.out W h) (by rw [ht])
    rw [e1, e3]
    clear ht h e1 e2 e3
    go_enter Try.func36, Try.ntmps36
    go_wp2_with fail
    refine (F1.out _ HC.out.lst).mono ?_
    rintro e w1 ⟨rfl, hb⟩
    have HC1 := Lib.hid (HC.out.step hb)
    clear hb l1
    go_wp2
    go_ret2
    exact ⟨rfl, HC1.out.below⟩
  | true =>
    have F1 := Lib.hid fun W h => val_eqF (v' := .bool true) (F1.out W h) (by rw [ht])
    cases hg : goodN N d with
    | false =>
      obtain ⟨e1, e2⟩ := cs_no (N := N) (d := d) (xs := xs) (y := y) (by unfold csB; rw [hg, Bool.and_false]; rfl)
      have e3 : bgR N d xs y = 0 := by unfold bgR; rw [if_neg (by rw [e1]; decide)]
      rw [e1, e3]
      rw [hg] at F2
      clear ht h hg e1 e2 e3
      go_enter Try.func36, Try.ntmps36
      go_wp2_with fail
      refine (F1.out _ HC.out.lst).mono ?_
      rintro e w1 ⟨rfl, hb⟩
      have HC1 := Lib.hid (HC.out.step hb)
      have k0 := HC1.out.noi.cell0
      have k1 := HC1.out.noi.cell1
      clear hb l1
      go_wp2_with fail
      refine (F2.out _).mono ?_
      rintro e w2 ⟨rfl, hb⟩
      have HC2 := Lib.hid (HC1.out.step hb)
      clear hb k0 k1
      go_wp2
      go_ret2
      exact ⟨rfl, HC2.out.below⟩
    | true =>
      rw [hg] at F2
      cases hm : marksL (bl y) with
      | false =>
        obtain ⟨e1, e2⟩ := cs_no (N := N) (d := d) (xs := xs) (y := y) (by unfold csB; rw [hm, Bool.and_false])
        have e3 : bgR N d xs y = 0 := by unfold bgR; rw [if_neg (by rw [e1]; decide)]
        rw [e1, e3]
        rw [hm] at F3
        clear ht h hg hm e1 e2 e3
        go_enter Try.func36, Try.ntmps36
        go_wp2_with fail
        refine (F1.out _ HC.out.lst).mono ?_
        rintro e w1 ⟨rfl, hb⟩
        have HC1 := Lib.hid (HC.out.step hb)
        have k0 := HC1.out.noi.cell0
        have k1 := HC1.out.noi.cell1
        clear hb l1
        go_wp2_with fail
        refine (F2.out _).mono ?_
        rintro e w2 ⟨rfl, hb⟩
        have HC2 := Lib.hid (HC1.out.step hb)
        clear hb k0 k1
        go_wp2_with fail
        refine (F3.out _).mono ?_
        rintro e w3 ⟨rfl, hb⟩
        have HC3 := Lib.hid (HC2.out.step hb)
        clear hb
        go_wp2
        go_ret2
        exact ⟨rfl, HC3.out.below⟩
      | true =>
        rw [hm] at F3
        obtain ⟨p, q, e, rfl, rfl, he, g1, g2, hN, hd⟩ := cs_yes (xs := xs) (y := y) hg
        have hv : csB (p : Int) (e : Int) xs y = true := by unfold csB; rw [ht, hg, hm]; rfl
        have hSd : csS (p : Int) (e : Int) xs y = (snL p q xs (bl y)).sum := by unfold csS; rw [hN, hd]
        have hOk : csOk (p : Int) (e : Int) xs y = decide (0 < (snL p q xs (bl y)).sum) := by unfold csOk; rw [hv, hSd, Bool.true_and]
        have hB : bgR (p : Int) (e : Int) xs y = bgTo (snL p q xs (bl y)) xs.length := by
          unfold bgR
          rw [hOk, hN, hd]
          by_cases e1 : 0 < (snL p q xs (bl y)).sum
          · rw [if_pos (by simpa using e1)]
          · rw [if_neg (by simpa using e1), bgTo_zero (by omega)]
        rw [hB, hOk]
        have hy5 : y.size ≤ 5 := by have := marks_len hm; rw [bl_len] at this; exact this.2
        have hn := ((tableB_iff xs).1 ht).1
        have G := Lib.hid fun W (h : ListIn W a b o xs) => sSent_any a b o c xs p q e y W h ht he g1 g2 hy5
        have HPl := Lib.hid (sn_len p q xs (bl y))
        generalize snL p q xs (bl y) = pl at *
        have HDec : Hid (decide ((0 : Int) < (pl.sum : Int)) = decide (0 < pl.sum)) := Lib.hid (decide_eq_decide.2 (by omega))
        generalize hSS : pl.sum = S at *
        have hn1 := hn.1
        have hn10 := hn.2
        clear ht h hg hm hv hSd hOk hB hN hd he g1 g2 hy5 hn hSS
        go_enter Try.func36, Try.ntmps36
        go_wp2_with fail
        refine (F1.out _ HC.out.lst).mono ?_
        rintro e' w1 ⟨rfl, hb⟩
        have HC1 := Lib.hid (HC.out.step hb)
        have k0 := HC1.out.noi.cell0
        have k1 := HC1.out.noi.cell1
        clear hb l1
        go_wp2_with fail
        refine (F2.out _).mono ?_
        rintro e' w2 ⟨rfl, hb⟩
        have HC2 := Lib.hid (HC1.out.step hb)
        clear hb k0 k1
        go_wp2_with fail
        refine (F3.out _).mono ?_
        rintro e' w3 ⟨rfl, hb⟩
        have HC3 := Lib.hid (HC2.out.step hb)
        have k0 := HC3.out.noi.cell0
        have k1 := HC3.out.noi.cell1
        have l1 := HC3.out.tab
        clear hb
        go_wp2_with fail
        refine (G.out _ HC3.out.lst).mono ?_
        rintro e' w4 ⟨a', g', c', rfl, hs', _, hb⟩
        have HC4 := Lib.hid (HC3.out.step hb)
        have HS4 := Lib.hid hs'
        obtain rfl := hs'.1 (by rw [ints_len, HPl.out]; omega)
        clear hb k0 k1 l1 hs'
        go_wp2
        go_loopw [10, 11] (fun sv v wr => ∃ k m z : Nat, v = .int .i64 k ∧ sv = .int .i64 m ∧ 1 ≤ k ∧ k ≤ xs.length ∧ m < xs.length ∧ Hid (m = bgTo pl k) ∧ wr = w4.drewN z) (fun _ v _ => xs.length - (intOf v).toNat)
        case atStart => exact ⟨1, 0, 0, rfl, rfl, Nat.le_refl _, hn1, hn1, Lib.hid (by simp [bgTo]), rfl⟩
        case round =>
          obtain ⟨k, m, z, rfl, rfl, hk1, hk, hm, HM, rfl⟩ := hrel
          by_cases hlt : k < xs.length
          · have hkl : k < pl.length := by rw [HPl.out]; exact hlt
            have hml : m < pl.length := by rw [HPl.out]; exact hm
            have d1 := HS4.out.2 k _ (ints_at hkl)
            have d2 := HS4.out.2 m _ (ints_at hml)
            have HN : Hid (bgTo pl (k + 1) = if pl[m] < pl[k] then k else m) := Lib.hid (by
              show (if gD pl (bgTo pl k) < gD pl k then k else bgTo pl k) = _
              rw [← HM.out, gD_at hml, gD_at hkl])
            generalize pl[k] = t at d1 HN
            generalize pl[m] = u at d2 HN
            have j0 : (0 : Int) ≤ (k : Int) := by omega
            have j1 : (k : Int) < (xs.length : Int) := by omega
            have j2 : (k : Int) + 1 ≤ 11 := by omega
            have j3 : (0 : Int) ≤ (m : Int) := by omega
            have j4 : (m : Int) < (xs.length : Int) := by omega
            have hkx : k + 1 ≤ xs.length := by omega
            by_cases hc : u < t
            · have t1 : (u : Int) < (t : Int) := by omega
              have HX : Hid (k = bgTo pl (k + 1)) := Lib.hid (by rw [HN.out, if_pos hc])
              clear hc hkl hml
              go_wp2
              go_quiet (fail)
              go_wp2
              go_roundw
              case rel => exact ⟨k + 1, k, _, by go_num, rfl, by omega, hkx, hlt, HX, rfl⟩
              case measure => simp [intOf]; omega
            · have t1 : ¬ (u : Int) < (t : Int) := by omega
              have HX : Hid (m = bgTo pl (k + 1)) := Lib.hid (by rw [HN.out, if_neg hc])
              clear hc hkl hml
              go_wp2
              go_quiet (fail)
              go_wp2
              go_roundw
              case rel => exact ⟨k + 1, m, _, by go_num, rfl, by omega, hkx, hm, HX, rfl⟩
              case measure => simp [intOf]; omega
          · obtain rfl : k = xs.length := by omega
            have HBf : Hid (Below w.heap.size w (w4.drewN z)) := Lib.hid (HC4.out.below.trans ⟨rfl, rfl, rfl, Nat.le_refl _, fun _ _ => rfl⟩)
            rcases Nat.eq_zero_or_pos S with hz | hz
            · have t1 : ¬ (0 : Int) < (S : Int) := by omega
              have hDD : decide (0 < S) = false := by simp; omega
              go_wp2
              go_ret2
              exact ⟨by rw [← HM.out]; first | (simp; done) | simp [hDD], HBf.out⟩
            · have t1 : (0 : Int) < (S : Int) := by omega
              have hDD : decide (0 < S) = true := by simpa using hz
              go_wp2
              go_ret2
              exact ⟨by rw [← HM.out]; first | (simp; done) | simp [hDD], HBf.out⟩
end Go.Proofs.Ytomhjfjfmjacfaa
