/-
  PlainLine, the program's and the model's: both answer alike. Used by the claims on chapter 4.
-/
import Derived.Test.YtijhfmjkiijhiaaDoorPlainB
import Derived.Test.YtijhfmjkiijhiaaDoorRepW
namespace Go.Proofs.YtijhfmjkiijhiaaDoor
open Go.RowKit
set_option linter.unusedVariables false

theorem plainLineX_no (s : ByteArray) (w : World) (hs : s.size ≤ 1048576) (h : lineL (bl s) = false) :
    Calls Tryd.prog 40 #[.string s] w fun e w' => e = .returned (.tuple #[.string ByteArray.empty, .bool false]) ∧ Below w.heap.size w w' := by
  have F := isLine_is s false hs h
  clear h
  go_enter Tryd.func40, Tryd.ntmps40
  go_wp2_with fail
  refine (F.out _).mono ?_
  rintro e w1 ⟨rfl, hb⟩
  have HB := Lib.hid hb
  clear hb
  go_wp2
  (first | go_ret | go_ret2)
  exact ⟨rfl, HB.out⟩
theorem sPlainLine_no (s : ByteArray) (w : World) (hs : s.size ≤ 1048576) (h : lineL (bl s) = false) :
    Calls Tryd.prog 39 #[.string s] w fun e w' => e = .returned (.tuple #[.string ByteArray.empty, .bool false]) ∧ Below w.heap.size w w' := by
  have F := sLine_is s false hs h
  clear h
  go_enter Tryd.func39, Tryd.ntmps39
  go_wp2_with fail
  refine (F.out _).mono ?_
  rintro e w1 ⟨rfl, hb⟩
  have HB := Lib.hid hb
  clear hb
  go_wp2
  (first | go_ret | go_ret2)
  exact ⟨rfl, HB.out⟩
theorem sPlainLine_yes (s : ByteArray) (w : World) (hs : s.size ≤ 1048576) (h : lineL (bl s) = true) :
    Calls Tryd.prog 39 #[.string s] w fun e w' => e = .returned (.tuple #[.string ⟨(plainL (bl s)).toArray⟩, .bool true]) ∧ Below w.heap.size w w' := by
  have F := sLine_is s true hs h
  have H := Lib.hid fun w => sPlain_any s w hs (fun c hc => line_beat h (c := c) hc)
  generalize plainL (bl s) = u at H ⊢
  clear h
  go_enter Tryd.func39, Tryd.ntmps39
  go_wp2_with fail
  refine (F.out _).mono ?_
  rintro e w1 ⟨rfl, hb⟩
  have HB := Lib.hid hb
  clear hb
  go_wp2_with fail
  refine (H.out _).mono ?_
  rintro e w3 ⟨rfl, hb⟩
  have HB3 := Lib.hid (HB.out.trans (hb.mono HB.out.size))
  clear hb
  go_wp2
  (first | go_ret | go_ret2)
  exact ⟨rfl, HB3.out⟩
theorem mul_facts (k u n z : Nat) (hk : k < n) (hu : 0 < u) (hn : n * u ≤ z) (hz : z ≤ 1048576) : ∃ p : Nat, k * u = p ∧ (k : Int) * (u : Int) = (p : Int) ∧ wrap64 (p : Int) = (p : Int) ∧ IntKind.i64.wrap (p : Int) = (p : Int) ∧ wrap64 ((p : Int) + 1) = ((p + 1 : Nat) : Int) ∧ IntKind.i64.wrap ((p : Int) + 1) = ((p + 1 : Nat) : Int) ∧ p < z := by
  have h : k * u < z := Nat.lt_of_lt_of_le (Nat.mul_lt_mul_of_pos_right hk hu) hn
  refine ⟨k * u, rfl, by push_cast; rfl, ?_, ?_, ?_, ?_, h⟩
  · generalize k * u = p at h ⊢; exact IntWalk.wrap64_in _ (by omega)
  · generalize k * u = p at h ⊢; rw [IntKind.wrap_i64]; omega
  · generalize k * u = p at h ⊢; rw [IntWalk.wrap64_in _ (by omega)]; omega
  · generalize k * u = p at h ⊢; rw [IntKind.wrap_i64]; omega
theorem samp_next (T : ByteArray) (u k p : Nat) (hp : k * u = p) (h : p < T.size) : sampTo (bl T) u (k + 1) = sampTo (bl T) u k ++ [T[p]] := by
  show sampTo (bl T) u k ++ [(bl T).getD (k * u) 0] = _
  subst hp
  rw [getD_at T (k * u) h]
set_option maxHeartbeats 8000000 in
set_option maxRecDepth 8000 in
theorem plainLine_go (s T : ByteArray) (u : Nat) (R : Bs) (w : World)
    (F : Hid (∀ w, Calls Tryd.prog 17 #[.string s] w fun e w' => e = .returned (.bool true) ∧ Below w.heap.size w w'))
    (G : Hid (∀ w, Calls Tryd.prog 71 #[.string s] w fun e w' => e = .returned (.string T) ∧ Below w.heap.size w w'))
    (H : Hid (∀ w, Calls Tryd.prog 70 #[.string T] w fun e w' => e = .returned (.int .i64 (u : Int)) ∧ Below w.heap.size w w'))
    (hT : T.size ≤ 1048576) (hne : T.toList.isEmpty = false) (hu : 0 < u) (hR : sampTo (bl T) u (T.size / u) = R) :
    Calls Tryd.prog 40 #[.string s] w fun e w' => e = .returned (.tuple #[.string ⟨R.toArray⟩, .bool true]) ∧ Below w.heap.size w w' := by
  have hdm : T.size / u * u ≤ T.size := Nat.div_mul_le_self _ _
  obtain ⟨q, hq, hv⟩ := div_facts T.size u hT hu
  rw [hq] at hR hdm
  have hq5 : q ≤ T.size := hv.2.2.2.2
  have HVs := Lib.hid hv
  have HDm := Lib.hid hdm
  have HR := Lib.hid hR
  clear hq hv hR hdm
  go_enter Tryd.func40, Tryd.ntmps40
  go_wp2_with fail
  refine (F.out _).mono ?_
  rintro e w1 ⟨rfl, hb⟩
  have HB := Lib.hid hb
  clear hb
  go_wp2_with fail
  refine (G.out _).mono ?_
  rintro e w2 ⟨rfl, hb⟩
  have HB2 := Lib.hid (HB.out.trans (hb.mono HB.out.size))
  clear hb
  go_wp2_with fail
  refine (H.out _).mono ?_
  rintro e w3 ⟨rfl, hb⟩
  have HB3 := Lib.hid (HB2.out.trans (hb.mono HB2.out.size))
  clear hb
  obtain ⟨v1, v2, v3, v4, _⟩ := HVs.out
  go_wp2
  clear v1 v2 v3 v4
  go_loop [5, 20] (fun sv v => ∃ (k : Nat), v = .int .i64 k ∧ k ≤ q ∧ sv = .string ⟨(sampTo (bl T) u k).toArray⟩) (fun _ v => q - (intOf v).toNat)
  case atStart => exact ⟨0, rfl, Nat.zero_le _, rfl⟩
  case round =>
    obtain ⟨k, rfl, hk, rfl⟩ := hrel
    by_cases hlt : k < q
    · obtain ⟨p, hp, hm⟩ := mul_facts k u q T.size hlt hu HDm.out hT
      have hpl : p < T.size := hm.2.2.2.2.2
      have HX := Lib.hid (ext_one T p hpl)
      have HN := Lib.hid (samp_next T u k p hp hpl)
      have hln : (sampTo (bl T) u k).length = k := sampTo_len _ _ _
      have HV : Hid (((⟨(sampTo (bl T) u k).toArray⟩ : ByteArray) ++ T.extract p (p + 1)) = ⟨(sampTo (bl T) u (k + 1)).toArray⟩) := Lib.hid (by rw [HX.out, HN.out, catE])
      have p1 : ¬ 9223372036854775807 < (sampTo (bl T) u k).length + 1 := by rw [hln]; omega
      have i0 : (0 : Int) ≤ (k : Int) := by omega
      have i1 : (k : Int) < (q : Int) := by omega
      have j0 : (0 : Int) ≤ (p : Int) := by omega
      have j1 : (p : Int) ≤ (p : Int) + 1 := by omega
      have j2 : (p : Int) + 1 ≤ (T.size : Int) := by omega
      have j3 : p + 1 ≤ T.size := by omega
      clear HX HN hln hp
      obtain ⟨v1, v2, v3, v4, v5, _⟩ := hm
      go_wp2
      clear v1 v2 v3 v4 v5
      go_round
      case rel => exact ⟨k + 1, by go_num, by omega, by first | rw [HV.out] | (rw [← HV.out]; simp)⟩
      case measure => simp [intOf]; omega
    · have HE : Hid (R = sampTo (bl T) u k) := Lib.hid (by rw [← HR.out]; congr 1; omega)
      go_wp2
      (first | go_ret | go_ret2)
      exact ⟨by rw [HE.out]; rfl, HB3.out⟩
set_option maxHeartbeats 8000000 in
set_option maxRecDepth 8000 in
theorem plainLineX_yes (s : ByteArray) (w : World) (hs : s.size ≤ 1048576) (h : lineL (bl s) = true) :
    Calls Tryd.prog 40 #[.string s] w fun e w' => e = .returned (.tuple #[.string ⟨(plainL (bl s)).toArray⟩, .bool true]) ∧ Below w.heap.size w w' := by
  have F := isLine_is s true hs h
  have hbt := fun c hc => line_beat h (c := c) hc
  obtain ⟨h1, h2, h3⟩ := trimT s hs hbt
  have G := Lib.hid fun w => withoutEnds_any s w hs
  have H := Lib.hid fun w => unitOf_any _ w h1 h2
  rw [h3] at H
  by_cases ht : trimL (bl s) = []
  · have HR := Lib.hid (plain_nil hbt ht)
    rw [HR.out]
    rw [ht] at G
    clear h h1 h2 h3 hbt ht H
    go_enter Tryd.func40, Tryd.ntmps40
    go_wp2_with fail
    refine (F.out _).mono ?_
    rintro e w1 ⟨rfl, hb⟩
    have HB := Lib.hid hb
    clear hb
    go_wp2_with fail
    refine (G.out _).mono ?_
    rintro e w2 ⟨rfl, hb⟩
    have HB2 := Lib.hid (HB.out.trans (hb.mono HB.out.size))
    clear hb
    go_wp2
    (first | go_ret | go_ret2)
    exact ⟨rfl, HB2.out⟩
  · obtain ⟨hu, hsm⟩ := plain_samp hbt ht
    have hbT : bl ⟨(trimL (bl s)).toArray⟩ = trimL (bl s) := bl_mk _
    have hszT : (⟨(trimL (bl s)).toArray⟩ : ByteArray).size = (trimL (bl s)).length := sizeE _
    refine plainLine_go s ⟨(trimL (bl s)).toArray⟩ _ _ w F G H h1 ?_ hu (by rw [hbT, hszT]; exact hsm)
    rw [ByteArray.toList_eq]
    show (bl ⟨(trimL (bl s)).toArray⟩).isEmpty = false
    rw [hbT]
    cases e : trimL (bl s) with
    | nil => exact absurd e ht
    | cons a r => rfl
theorem plainLine_both (s : ByteArray) (hs : s.size ≤ 1048576) : ∃ (R0 : ByteArray) (R1 : Bool),
    Hid (∀ W, Calls Tryd.prog 39 #[.string s] W fun e W' => e = .returned (.tuple #[.string R0, .bool R1]) ∧ Below W.heap.size W W') ∧
    Hid (∀ W, Calls Tryd.prog 40 #[.string s] W fun e W' => e = .returned (.tuple #[.string R0, .bool R1]) ∧ Below W.heap.size W W') := by
  cases h : lineL (bl s)
  · exact ⟨_, _, fun W => sPlainLine_no s W hs h, fun W => plainLineX_no s W hs h⟩
  · exact ⟨_, _, fun W => sPlainLine_yes s W hs h, fun W => plainLineX_yes s W hs h⟩
end Go.Proofs.YtijhfmjkiijhiaaDoor
