/-
  FillShort, the program's. Used by the claim on FillShort.
-/
import Derived.Test.YtgfmcpipbmnagaaFilS
namespace Go.Proofs.Ytgfmcpipbmnagaa
open Go.RowKit
set_option linter.unusedVariables false

theorem fillShort_no1 (a : Option Addr) (g c : Nat) (l : List Int) (x : Int) (w : World) (hs : SrcV w a g (intz l)) (hl : l.length ≤ 1048576) (h0 : traceZ l = false) :
    Calls Try.prog 34 #[.slice a l.length c, .int .i64 x] w (SeqOut (ints []) ([] : List Nat).length false w) := by
  have F0 := isTrace_f l false h0 hl
  have HS := Lib.hid hs
  clear hs h0
  go_enter Try.func34, Try.ntmps34
  go_wp2_with fail
  refine (F0.out _ _ _ _ (HS.out.below (by first | exact Below.refl _ _ | exact below_alloc _ _))).mono ?_
  rintro e w1 ⟨rfl, hb⟩
  have HB : Hid (Below w.heap.size w w1) := Lib.hid (by first | exact hb | exact (below_alloc w _).trans (hb.mono (below_alloc w _).size))
  clear hb
  go_wp2
  (first | go_ret | go_ret2)
  exact seq_no _ _ (by first | exact HB.out | exact HB.out.alloc HB.out.size _)
theorem fillShort_no2 (a : Option Addr) (g c : Nat) (l : List Int) (x : Int) (w : World) (hs : SrcV w a g (intz l)) (hl : l.length ≤ 1048576) (h0 : traceZ l = true) (h1 : okLen x = false) :
    Calls Try.prog 34 #[.slice a l.length c, .int .i64 x] w (SeqOut (ints []) ([] : List Nat).length false w) := by
  have F0 := isTrace_f l true h0 hl
  have F1 := isLen_f x false h1
  have HS := Lib.hid hs
  clear hs h0 h1
  go_enter Try.func34, Try.ntmps34
  go_wp2_with fail
  refine (F0.out _ _ _ _ (HS.out.below (by first | exact Below.refl _ _ | exact below_alloc _ _))).mono ?_
  rintro e w1 ⟨rfl, hb⟩
  have HB : Hid (Below w.heap.size w w1) := Lib.hid (by first | exact hb | exact (below_alloc w _).trans (hb.mono (below_alloc w _).size))
  clear hb
  go_wp2_with fail
  refine (F1.out _).mono ?_
  rintro e wz1 ⟨rfl, hww⟩
  obtain rfl := hww.symm
  go_wp2
  (first | go_ret | go_ret2)
  exact seq_no _ _ (by first | exact HB.out | exact HB.out.alloc HB.out.size _)
set_option maxHeartbeats 8000000 in
set_option maxRecDepth 8000 in
theorem fillShort_yes (a : Option Addr) (g c : Nat) (m : List Nat) (t : Nat) (w : World) (hs : SrcV w a g (ints m)) (hm : IsTr m) (ht0 : 1 ≤ t) (ht : t ≤ 999) :
    Calls Try.prog 34 #[.slice a m.length c, .int .i64 t] w (FinOut (fillL m t) w) := by
  obtain ⟨i0, hi, hz0, hz1, hz2⟩ := info_parts infoIntI
  have F := isTrace_m m hm
  have G1 := isLen_f (t : Int) true (okLen_of t ht0 ht)
  have HM := Lib.hid hm
  have hl := hm.len
  have hodd := hm.odd
  have HS := Lib.hid fun W hb => hs.below (w' := W) hb
  have HS0 := Lib.hid hs
  obtain rfl := hs.1 (by rw [ints_len]; omega)
  clear hs hm
  go_enter Try.func34, Try.ntmps34
  go_wp2_with fail
  refine (F.out _ _ _ _ HS0.out).mono ?_
  rintro e w1 ⟨rfl, hb⟩
  have HB := Lib.hid hb
  clear hb
  go_wp2_with fail
  refine (G1.out _).mono ?_
  rintro e w2 ⟨rfl, hww⟩
  obtain rfl := hww.symm
  have d0 := (HS.out w1 HB.out).2 0 _ (ints_at (show 0 < m.length by omega))
  have HE0 : Hid (fillTo m t 0 = ([], m[0]'(by omega))) := Lib.hid (by rw [fillTo, getD_tr (by omega)])
  generalize m[0]'(by omega) = x0 at d0 HE0
  have n0 : (0 : Int) < (m.length : Int) := by omega
  have n1 : 0 < m.length := by omega
  have M0 : Hid ((w1.alloc (Obj.cells #[.int .i64 (x0 : Int)] 3)).ownsRow w.heap.size 3 1 (.slice (some ⟨w1.heap.size, 0, none⟩) 1 1) 1 (ints [x0])) := Lib.hid (World.ownsRow_lit (base := w.heap.size) w1 #[.int .i64 (x0 : Int)] 1 HB.out.size (by unfold maxLen; omega) rfl)
  go_wp2
  clear d0
  go_loopw [6, 7] (fun pv v wr => ∃ (k : Nat) (r : List Nat) (z : Nat), v = .int .i64 ((2 * k + 1 : Nat) : Int) ∧ 2 * k + 1 ≤ m.length ∧ wr.ownsRow w.heap.size 3 1 pv (r.length + 1) (ints (r ++ [z])) ∧ Hid (fillTo m t k = (r, z)) ∧ Hid (Below w.heap.size w wr)) (fun _ v _ => m.length - (intOf v).toNat)
  case atStart => exact ⟨0, [], x0, rfl, by omega, M0.out, HE0, Lib.hid (HB.out.alloc HB.out.size _)⟩
  case round =>
    obtain ⟨k, r, z, rfl, hk, hown, HE, HB3⟩ := hrel
    have hzb : z ≤ 999 * 143 ∧ r.length ≤ 143 := by
      have h1 := fillTo_bd HM.out t k (by omega)
      rw [HE.out] at h1
      simp only at h1
      omega
    obtain ⟨hz9, hr9⟩ := hzb
    by_cases hlt : 2 * k + 1 < m.length
    · have hlt2 : 2 * k + 2 < m.length := by omega
      have d1 := (HS.out wr HB3.out).2 (2 * k + 1) _ (ints_at hlt)
      have d2 := (HS.out wr HB3.out).2 (2 * k + 2) _ (ints_at hlt2)
      have HNl : Hid (m[2 * k + 1] < t → fillTo m t (k + 1) = (r, z + (m[2 * k + 1] + m[2 * k + 2]))) := Lib.hid fun h => by rw [fillTo_less hlt2 h, HE.out]
      have HNm : Hid (¬ m[2 * k + 1] < t → fillTo m t (k + 1) = (r ++ [z, m[2 * k + 1]], m[2 * k + 2])) := Lib.hid fun h => by rw [fillTo_more hlt2 h, HE.out]
      have hx1 := (HM.out.at hlt).2
      have hx2 := (HM.out.at hlt2).2
      generalize m[2 * k + 1] = up at d1 HNl HNm hx1
      generalize m[2 * k + 2] = dn at d2 HNl HNm hx2
      obtain ⟨j, hj⟩ : ∃ j : Nat, 2 * k + 1 = j := ⟨_, rfl⟩
      have hj2 : 2 * k + 2 = j + 1 := by omega
      have HJ : Hid (((2 * (k + 1) + 1 : Nat) : Int) = (j : Int) + 2 ∧ 2 * (k + 1) + 1 ≤ m.length) := Lib.hid (by omega)
      rw [hj] at d1 hlt ⊢
      rw [hj2] at d2 hlt2
      have k0 : (0 : Int) ≤ (j : Int) := by omega
      have k1 : (j : Int) < (m.length : Int) := by omega
      have k2 : (j : Int) + 1 < (m.length : Int) := by omega
      have k3 : (0 : Int) ≤ (j : Int) + 1 := by omega
      have hr6 : r.length ≤ 1048576 := by omega
      have hr7 : r.length ≤ 1000000000000 := by omega
      have l1 : (r.length : Int) < ((r.length + 1 : Nat) : Int) := by omega
      have l2 : (r.length : Int) < (r.length : Int) + 1 := by omega
      have hmx : r.length + 1 + 2 ≤ maxLen := by unfold maxLen; omega
      have hby : (r.length + 1 + 2) * 8 ≤ 140737488355328 := by omega
      obtain ⟨av, capv, rfl⟩ := row_form hown
      have hsz := HB3.out.size
      clear hj hj2
      by_cases hup : up < t
      · have hup' : (up : Int) < (t : Int) := by omega
        have HN := Lib.hid (HNl.out hup)
        have HOw := Lib.hid hown
        clear HNl HNm hup
        go_wp2
        go_quiet (fail)
        obtain ⟨W5, hW5⟩ : ∃ W5, W5 = wr.drewN nq := ⟨_, rfl⟩
        have hownd : W5.ownsRow w.heap.size 3 1 (.slice av (r.length + 1) capv) (r.length + 1) (ints (r ++ [z])) := by rw [hW5]; exact HOw.out
        have HBd : Hid (Below w.heap.size w W5) := Lib.hid (by rw [hW5]; exact HB3.out.trans ⟨rfl, rfl, rfl, Nat.le_refl _, fun _ _ => rfl⟩)
        rw [← hW5]
        clear hW5 hown
        obtain ⟨gf, cap7, hv7, hg1, hg2, hc7, hf7, hst⟩ := rowI_last hownd
        injection hv7 with hv8 _ hv9
        subst hv8 hv9
        have HSt := Lib.hid (hst (z + (up + dn)))
        have HBs : Hid (Below w.heap.size w (W5.setCell ⟨gf, r.length, none⟩ (.int .i64 ((z + (up + dn) : Nat) : Int)))) := Lib.hid (HBd.out.setCell (p := ⟨gf, r.length, none⟩) hg1 _)
        clear hst hg1 hg2 hownd d1 d2 hmx hby hr6 hr7 k2 k3 hlt2 hodd l1 l2
        go_wp2
        go_roundw
        case rel => exact ⟨k + 1, r, z + (up + dn), by rw [HJ.out.1], HJ.out.2, HSt.out, HN, HBs⟩
        case measure => simp [intOf]; omega
      · have hup' : ¬ (up : Int) < (t : Int) := by omega
        have hup2 : (t : Int) ≤ (up : Int) := by omega
        have HN := Lib.hid (HNm.out hup)
        have HOw := Lib.hid hown
        clear HNl HNm hup
        go_wp2
        go_quiet (fail)
        obtain ⟨W5, hW5⟩ : ∃ W5, W5 = wr.drewN nq := ⟨_, rfl⟩
        have hownd : W5.ownsRow w.heap.size 3 1 (.slice av (r.length + 1) capv) (r.length + 1) (ints (r ++ [z])) := by rw [hW5]; exact HOw.out
        have HBd : Hid (Below w.heap.size w W5) := Lib.hid (by rw [hW5]; exact HB3.out.trans ⟨rfl, rfl, rfl, Nat.le_refl _, fun _ _ => rfl⟩)
        have HLd : Hid (∀ q, (Value.slice av (r.length + 1) capv).ownBlock = some q → w.heap.size ≤ q ∧ q < W5.heap.size) := Lib.hid hownd.lt
        have hszd : w.heap.size ≤ W5.heap.size := HBd.out.size
        rw [← hW5]
        clear hW5 hown d1 d2
        go_wp2_with (at_builtin; refine wpList_append_own _ rfl _ _ 22 rfl w.heap.size 3 i0 (.int .i64 0) 1 8 Try.underlying22 hi hz0 hz1 hz2 rfl (by decide) _ _ _ rfl (hownd.alloc _) ⟨W5.heap.size, 0, none⟩ 2 2 [.int .i64 (up : Int), .int .i64 (dn : Int)] rfl rfl (cell_two_new _ _ _ _) (by simp [Value.oneCell']) hmx hby (Nat.le_trans hszd (below_alloc W5 _).size) ?_; intro v' w7 hown' hgrow _)
        have HW7 : Hid (w7.ownsRow w.heap.size 3 1 v' ((r ++ [z, up]).length + 1) (ints (r ++ [z, up] ++ [dn]))) := Lib.hid (by
          rw [fill_more_row]
          have e : (r ++ [z, up]).length + 1 = r.length + 1 + 2 := by simp
          rw [e]; exact hown')
        have HB7 : Hid (Below w.heap.size w w7) := Lib.hid ((HBd.out.alloc HBd.out.size _).grown hgrow (Nat.le_trans HBd.out.size (below_alloc W5 _).size) (fun q e => (HLd.out q e).1))
        clear hown' hgrow hownd
        clear hmx hby hr6 hr7 l1 l2 k2 k3 hlt2
        go_wp2
        go_roundw
        case rel => exact ⟨k + 1, r ++ [z, up], dn, by rw [HJ.out.1], HJ.out.2, HW7.out, HN, HB7⟩
        case measure => simp [intOf]; omega
    · have hke : k = m.length / 2 := by omega
      have HFl : Hid (fillL m t = r ++ [z]) := Lib.hid (by rw [fillL, ← hke, HE.out])
      go_wp2_with fail
      refine (ifTrace_out _ (r ++ [z]) _ w (by simpa using hown) (by simp; omega) HB3.out).mono ?_
      rintro e w8 ⟨v, ok, rfl, hf⟩
      have HFo := Lib.hid hf
      clear hf
      go_wp2
      (first | go_ret | go_ret2)
      rw [HFl.out]
      exact HFo.out
theorem fillL_len {m : List Nat} (hm : IsTr m) (t : Nat) : (fillL m t).length ≤ 1000 := by
  have h := fillTo_bd hm t (m.length / 2) (by have := hm.odd; omega)
  have := hm.len
  simp only [fillL, List.length_append, List.length_singleton]
  omega
theorem fillShort_both (l0 : List Int) (x : Int) (hl : l0.length ≤ 1048576) (hi : InI l0) (wx : (Lit.int .i64 x).wf = true) : ∃ (l : List Nat) (R1 : Bool), l.length ≤ 1048576 ∧
    Hid (∀ W a g c, SrcV W a g (intz l0) → Calls Try.prog 33 #[.slice a l0.length c, .int .i64 x] W (SeqOut (ints l) l.length R1 W)) ∧
    Hid (∀ W a g c, SrcV W a g (intz l0) → Calls Try.prog 34 #[.slice a l0.length c, .int .i64 x] W (SeqOut (ints l) l.length R1 W)) := by
  cases h : traceZ l0
  · exact ⟨[], false, by simp, fun W a g c hs => sFillShort_no1 a g c l0 x W hs hl h, fun W a g c hs => fillShort_no1 a g c l0 x W hs hl h⟩
  · cases h2 : okLen x
    · exact ⟨[], false, by simp, fun W a g c hs => sFillShort_no2 a g c l0 x W hs hl h h2, fun W a g c hs => fillShort_no2 a g c l0 x W hs hl h h2⟩
    · obtain ⟨m, rfl, hm⟩ := traceZ_nat h
      obtain ⟨t, rfl, ht0, ht⟩ := okLen_nat h2
      rw [zs_len, zs_ints]
      exact ⟨(finR (fillL m t)).1, (finR (fillL m t)).2, finR_len (by have := fillL_len hm t; omega), fun W a g c hs => sFillShort_yes a g c m t W hs hm ht0 ht, fun W a g c hs => fillShort_yes a g c m t W hs hm ht0 ht⟩
end Go.Proofs.Ytgfmcpipbmnagaa
