/-
  l4Signal and SignalOf of the model; both SignalOf answer alike. Used by the claims on chapter 4.
-/
import Derived.Test.YtijhfmjkiijhiaaDoorSigX
namespace Go.Proofs.YtijhfmjkiijhiaaDoor
open Go.RowKit
set_option linter.unusedVariables false

set_option maxHeartbeats 8000000 in
set_option maxRecDepth 8000 in
theorem sSig_any (s : ByteArray) (w : World) (hs : s.size ≤ 1048576) (h : lineL (bl s) = true) :
    Calls Tryd.prog 54 #[.string s] w fun e w' => e = .returned (.tuple #[.string ⟨(sigS (bl s)).toArray⟩, .bool (sigOk (bl s))]) ∧ Below w.heap.size w w' := by
  have F := Lib.hid fun w => sRuns_any s w hs (fun c hc => line_beat h (c := c) hc)
  have hln := runs_len h
  have HK : Hid (sigOk (bl s) = ((runsL (bl s)).all runOk && (pieces (sgnL (runsL (bl s)))).isSome && (lnL (sgnL (runsL (bl s))) == bl s))) := Lib.hid rfl
  have HSt : Hid (sigS (bl s) = if sigOk (bl s) = true then sgnL (runsL (bl s)) else []) := Lib.hid rfl
  have HGd := Lib.hid (runsL_good (fun c hc => line_beat h (c := c) hc)).1
  generalize runsL (bl s) = rs at F hln HK HSt HGd
  generalize sigOk (bl s) = ok at HK HSt ⊢
  generalize sigS (bl s) = r at HSt ⊢
  have hsz : (sgnL rs).length ≤ 200 := Nat.le_trans (sgnTo_le rs rs.length) hln
  have HL0 : Hid (∀ w, Calls Tryd.prog 81 #[.string ⟨(sgnL rs).toArray⟩] w fun e w' => e = .returned (.bool (pieces (sgnL rs)).isSome) ∧ Below w.heap.size w w') := Lib.hid fun w => by
    have := sSignal_any ⟨(sgnL rs).toArray⟩ w (by rw [sizeE]; omega)
    rwa [bl_mk0] at this
  have HL1 : Hid ((pieces (sgnL rs)).isSome = true → ∀ w, Calls Tryd.prog 82 #[.string ⟨(sgnL rs).toArray⟩] w fun e w' => e = .returned (.string ⟨(lnL (sgnL rs)).toArray⟩) ∧ ∃ q, w' = w.drewN q) := Lib.hid fun hl w => by
    obtain ⟨ps, hps⟩ := Option.isSome_iff_exists.1 hl
    have := sOf_any ⟨(sgnL rs).toArray⟩ w (by rw [sizeE]; omega) (by rw [bl_mk0]; exact pieces_signs hps)
    rwa [bl_mk0] at this
  clear h
  go_enter Tryd.func54, Tryd.ntmps54
  go_wp2_with fail
  refine (F.out _).mono ?_
  rintro e w1 ⟨⟨g, c, rfl, hsv, _, _, _⟩, hb⟩
  have HS := Lib.hid fun W hb => hsv.below (w' := W) hb
  have HB1 := Lib.hid hb
  clear hsv hb F
  go_wp2
  go_loopw [4, 6] (fun sv v wr => ∃ (k : Nat) (l : Bs), v = .int .i64 k ∧ k ≤ rs.length ∧ sv = .string ⟨l.toArray⟩ ∧ l.length ≤ k ∧ Hid (l = sgnTo rs k) ∧ Hid ((rs.take k).all runOk = true) ∧ Hid (Below w1.heap.size w1 wr)) (fun _ v _ => rs.length - (intOf v).toNat)
  case atStart => exact ⟨0, [], rfl, Nat.zero_le _, rfl, Nat.zero_le _, Lib.hid rfl, Lib.hid (by simp), Lib.hid (Below.refl _ _)⟩
  case round =>
    obtain ⟨k, l, rfl, hk, rfl, hl, HL, HA, HB⟩ := hrel
    by_cases hlt : k < rs.length
    · have d1 := (HS.out wr HB.out).2 _ _ (prs_at hlt).1
      have d2 := (HS.out wr HB.out).2 _ _ (prs_at hlt).2
      have hx1 : (rs[k]).1 ≤ 1 := (HGd.out.mem _ (List.getElem_mem hlt)).1
      have HNx := Lib.hid (sgn_next hlt)
      have HAn := Lib.hid (fun h2 => all_next hlt HA.out h2)
      have HNo := Lib.hid (fun h2 => all_not hlt h2)
      generalize rs[k] = pq at d1 d2 hx1 HNx HAn HNo
      obtain ⟨x, y⟩ := pq
      simp only at d1 d2 hx1
      have i0 : (0 : Int) ≤ (k : Int) := by omega
      have i1 : (k : Int) < (rs.length : Int) := by omega
      have e2 : k * 2 = 2 * k := Nat.mul_comm _ _
      rw [← e2] at d1 d2
      clear e2
      go_wp2
      go_quiet (fail)
      obtain ⟨W5, hW5⟩ : ∃ W5, W5 = wr.drewN nq := ⟨_, rfl⟩
      have HBd : Hid (Below w1.heap.size w1 W5) := Lib.hid (by rw [hW5]; exact HB.out.trans ⟨rfl, rfl, rfl, Nat.le_refl _, fun _ _ => rfl⟩)
      rw [← hW5]
      clear hW5 d1 d2
      cases hok : runOk (x, y)
      · have HE : Hid (ok = false) := Lib.hid (by rw [HK.out, HNo.out hok]; rfl)
        have HE2 : Hid (r = []) := Lib.hid (by rw [HSt.out, HE.out]; rfl)
        simp only [runOk, Bool.or_eq_false_iff, Bool.and_eq_false_iff, beq_eq_false_iff_ne] at hok
        rcases (show (x = 0 ∧ y ≠ 1 ∧ y ≠ 3 ∧ y ≠ 7) ∨ (x = 1 ∧ y ≠ 1 ∧ y ≠ 3) by omega) with ⟨rfl, n1, n3, n7⟩ | ⟨rfl, n1, n3⟩
        · have e1 : ((y : Int) == 1) = false := beq_false_of_ne (by omega)
          have e3 : ((y : Int) == 3) = false := beq_false_of_ne (by omega)
          have e7 : ((y : Int) == 7) = false := beq_false_of_ne (by omega)
          clear hok n1 n3 n7 HNx HAn HNo
          go_wp2
          (first | go_ret | go_ret2)
          exact ⟨by rw [HE.out, HE2.out]; rfl, HB1.out.trans (HBd.out.mono HB1.out.size)⟩
        · have e1 : ((y : Int) == 1) = false := beq_false_of_ne (by omega)
          have e3 : ((y : Int) == 3) = false := beq_false_of_ne (by omega)
          clear hok n1 n3 HNx HAn HNo
          go_wp2
          (first | go_ret | go_ret2)
          exact ⟨by rw [HE.out, HE2.out]; rfl, HB1.out.trans (HBd.out.mono HB1.out.size)⟩
      · have HAn2 := Lib.hid (HAn.out hok)
        have hc : (x = 1 ∧ y = 1) ∨ (x = 1 ∧ y = 3) ∨ (x = 0 ∧ y = 1) ∨ (x = 0 ∧ y = 3) ∨ (x = 0 ∧ y = 7) := by
          simp only [runOk, Bool.or_eq_true, Bool.and_eq_true, beq_iff_eq] at hok
          omega
        rcases hc with ⟨rfl, rfl⟩ | ⟨rfl, rfl⟩ | ⟨rfl, rfl⟩ | ⟨rfl, rfl⟩ | ⟨rfl, rfl⟩
        · have hsg : runSgn (1, 1) = [46] := rfl
          have HLn : Hid ((sgnTo rs (k + 1)).length ≤ k + 1) := Lib.hid (sgnTo_le rs (k + 1))
          have p1 : ¬ 9223372036854775807 < l.length + 1 := by omega
          have HV : Hid (((⟨l.toArray⟩ : ByteArray) ++ ⟨#[46]⟩) = ⟨(sgnTo rs (k + 1)).toArray⟩) := Lib.hid (by rw [HNx.out, hsg, ← HL.out, catE])
          clear hok hsg HNx HAn HNo
          go_wp2
          go_roundw
          case rel => exact ⟨k + 1, sgnTo rs (k + 1), by go_num, by omega, by rw [HV.out], HLn.out, Lib.hid rfl, HAn2, HBd⟩
          case measure => simp [intOf]; omega
        · have hsg : runSgn (1, 3) = [45] := rfl
          have HLn : Hid ((sgnTo rs (k + 1)).length ≤ k + 1) := Lib.hid (sgnTo_le rs (k + 1))
          have p1 : ¬ 9223372036854775807 < l.length + 1 := by omega
          have HV : Hid (((⟨l.toArray⟩ : ByteArray) ++ ⟨#[45]⟩) = ⟨(sgnTo rs (k + 1)).toArray⟩) := Lib.hid (by rw [HNx.out, hsg, ← HL.out, catE])
          clear hok hsg HNx HAn HNo
          go_wp2
          go_roundw
          case rel => exact ⟨k + 1, sgnTo rs (k + 1), by go_num, by omega, by rw [HV.out], HLn.out, Lib.hid rfl, HAn2, HBd⟩
          case measure => simp [intOf]; omega
        · have hsg : runSgn (0, 1) = [] := rfl
          have HLn : Hid ((sgnTo rs (k + 1)).length ≤ k + 1) := Lib.hid (sgnTo_le rs (k + 1))
          have p1 : ¬ 9223372036854775807 < l.length + 1 := by omega
          have HV : Hid (l = sgnTo rs (k + 1)) := Lib.hid (by rw [HNx.out, hsg, List.append_nil, HL.out])
          clear hok hsg HNx HAn HNo
          go_wp2
          go_roundw
          case rel => exact ⟨k + 1, sgnTo rs (k + 1), by go_num, by omega, by rw [HV.out], HLn.out, Lib.hid rfl, HAn2, HBd⟩
          case measure => simp [intOf]; omega
        · have hsg : runSgn (0, 3) = [32] := rfl
          have HLn : Hid ((sgnTo rs (k + 1)).length ≤ k + 1) := Lib.hid (sgnTo_le rs (k + 1))
          have p1 : ¬ 9223372036854775807 < l.length + 1 := by omega
          have HV : Hid (((⟨l.toArray⟩ : ByteArray) ++ ⟨#[32]⟩) = ⟨(sgnTo rs (k + 1)).toArray⟩) := Lib.hid (by rw [HNx.out, hsg, ← HL.out, catE])
          clear hok hsg HNx HAn HNo
          go_wp2
          go_roundw
          case rel => exact ⟨k + 1, sgnTo rs (k + 1), by go_num, by omega, by rw [HV.out], HLn.out, Lib.hid rfl, HAn2, HBd⟩
          case measure => simp [intOf]; omega
        · have hsg : runSgn (0, 7) = [47] := rfl
          have HLn : Hid ((sgnTo rs (k + 1)).length ≤ k + 1) := Lib.hid (sgnTo_le rs (k + 1))
          have p1 : ¬ 9223372036854775807 < l.length + 1 := by omega
          have HV : Hid (((⟨l.toArray⟩ : ByteArray) ++ ⟨#[47]⟩) = ⟨(sgnTo rs (k + 1)).toArray⟩) := Lib.hid (by rw [HNx.out, hsg, ← HL.out, catE])
          clear hok hsg HNx HAn HNo
          go_wp2
          go_roundw
          case rel => exact ⟨k + 1, sgnTo rs (k + 1), by go_num, by omega, by rw [HV.out], HLn.out, Lib.hid rfl, HAn2, HBd⟩
          case measure => simp [intOf]; omega
    · have hke : k = rs.length := by omega
      have HAll : Hid (rs.all runOk = true) := Lib.hid (by have := HA.out; rw [hke, List.take_length] at this; exact this)
      have HLe : Hid (l = sgnL rs) := Lib.hid (by rw [HL.out, hke, sgnL])
      have hi1 : ¬ (k : Int) < (rs.length : Int) := by omega
      clear hke
      cases hlo : (pieces (sgnL rs)).isSome
      · have G := HL0
        rw [hlo] at G
        have HE : Hid (ok = false) := Lib.hid (by rw [HK.out, HAll.out, hlo]; rfl)
        have HE2 : Hid (r = []) := Lib.hid (by rw [HSt.out, HE.out]; rfl)
        rw [← HLe.out] at G
        clear hlo HL0 HL1
        go_wp2_with fail
        refine (G.out _).mono ?_
        rintro e w5 ⟨rfl, hb5⟩
        have HB5 : Hid (Below w1.heap.size w1 w5) := Lib.hid (HB.out.trans (hb5.mono HB.out.size))
        clear hb5
        go_wp2
        (first | go_ret | go_ret2)
        exact ⟨by rw [HE.out, HE2.out]; rfl, HB1.out.trans (HB5.out.mono HB1.out.size)⟩
      · have G := HL0
        rw [hlo] at G
        have G1 := Lib.hid (HL1.out hlo)
        rw [← HLe.out] at G G1
        have HQ : Hid (ok = (lnL l == bl s)) := Lib.hid (by rw [HK.out, HAll.out, hlo, ← HLe.out]; simp)
        cases heq : (lnL l == bl s)
        · have HE : Hid (ok = false) := Lib.hid (by rw [HQ.out, heq])
          have HE2 : Hid (r = []) := Lib.hid (by rw [HSt.out, HE.out]; rfl)
          obtain ⟨t1, t2⟩ := text_eq _ s _ heq
          generalize lnL l = z at G1 t1 t2
          clear hlo HL0 HL1 heq HQ
          go_wp2_with fail
          refine (G.out _).mono ?_
          rintro e w5 ⟨rfl, hb5⟩
          have HB5 : Hid (Below w1.heap.size w1 w5) := Lib.hid (HB.out.trans (hb5.mono HB.out.size))
          clear hb5
          go_wp2_with fail
          refine (G1.out _).mono ?_
          rintro e w6 ⟨rfl, q6, hq6⟩
          have HB6 : Hid (Below w1.heap.size w1 w6) := Lib.hid (by rw [hq6]; exact HB5.out.trans ⟨rfl, rfl, rfl, Nat.le_refl _, fun _ _ => rfl⟩)
          clear hq6
          go_wp2
          (first | go_ret | go_ret2)
          exact ⟨by rw [HE.out, HE2.out]; rfl, HB1.out.trans (HB6.out.mono HB1.out.size)⟩
        · have HE : Hid (ok = true) := Lib.hid (by rw [HQ.out, heq])
          have HE2 : Hid (r = l) := Lib.hid (by rw [HSt.out, HE.out, HLe.out]; rfl)
          obtain ⟨t1, t2⟩ := text_eq _ s _ heq
          generalize lnL l = z at G1 t1 t2
          clear hlo HL0 HL1 heq HQ
          go_wp2_with fail
          refine (G.out _).mono ?_
          rintro e w5 ⟨rfl, hb5⟩
          have HB5 : Hid (Below w1.heap.size w1 w5) := Lib.hid (HB.out.trans (hb5.mono HB.out.size))
          clear hb5
          go_wp2_with fail
          refine (G1.out _).mono ?_
          rintro e w6 ⟨rfl, q6, hq6⟩
          have HB6 : Hid (Below w1.heap.size w1 w6) := Lib.hid (by rw [hq6]; exact HB5.out.trans ⟨rfl, rfl, rfl, Nat.le_refl _, fun _ _ => rfl⟩)
          clear hq6
          go_wp2
          (first | go_ret | go_ret2)
          exact ⟨by rw [HE.out, HE2.out]; rfl, HB1.out.trans (HB6.out.mono HB1.out.size)⟩

/-! ### SignalOf -/
theorem signalOfX_no (s : ByteArray) (w : World) (hs : s.size ≤ 1048576) (h : lineL (bl s) = false) :
    Calls Tryd.prog 19 #[.string s] w fun e w' => e = .returned (.tuple #[.string ByteArray.empty, .bool false]) ∧ Below w.heap.size w w' := by
  have F := Lib.hid fun w => runsOfX_no s w hs h
  clear h
  go_enter Tryd.func19, Tryd.ntmps19
  go_wp2_with fail
  refine (F.out _).mono ?_
  rintro e w1 ⟨a, g, c, rfl, _, _, _, hb⟩
  have HB := Lib.hid hb
  clear hb
  go_wp2
  (first | go_ret | go_ret2)
  exact ⟨rfl, HB.out⟩
theorem sSignalOf_no (s : ByteArray) (w : World) (hs : s.size ≤ 1048576) (h : lineL (bl s) = false) :
    Calls Tryd.prog 18 #[.string s] w fun e w' => e = .returned (.tuple #[.string ByteArray.empty, .bool false]) ∧ Below w.heap.size w w' := by
  have F := sLine_is s false hs h
  clear h
  go_enter Tryd.func18, Tryd.ntmps18
  go_wp2_with fail
  refine (F.out _).mono ?_
  rintro e w1 ⟨rfl, hb⟩
  have HB := Lib.hid hb
  clear hb
  go_wp2
  (first | go_ret | go_ret2)
  exact ⟨rfl, HB.out⟩
theorem sSignalOf_yes (s : ByteArray) (w : World) (hs : s.size ≤ 1048576) (h : lineL (bl s) = true) :
    Calls Tryd.prog 18 #[.string s] w fun e w' => e = .returned (.tuple #[.string ⟨(sigS (bl s)).toArray⟩, .bool (sigOk (bl s))]) ∧ Below w.heap.size w w' := by
  have F := sLine_is s true hs h
  have G := Lib.hid fun w => sSig_any s w hs h
  generalize sigS (bl s) = r at G ⊢
  generalize sigOk (bl s) = ok at G ⊢
  clear h
  go_enter Tryd.func18, Tryd.ntmps18
  go_wp2_with fail
  refine (F.out _).mono ?_
  rintro e w1 ⟨rfl, hb⟩
  have HB := Lib.hid hb
  clear hb
  go_wp2_with fail
  refine (G.out _).mono ?_
  rintro e w2 ⟨rfl, hb⟩
  have HB2 := Lib.hid (HB.out.trans (hb.mono HB.out.size))
  clear hb
  go_wp2
  (first | go_ret | go_ret2)
  exact ⟨rfl, HB2.out⟩
theorem signalOf_both (s : ByteArray) (hs : s.size ≤ 1048576) : ∃ (R0 : ByteArray) (R1 : Bool),
    Hid (∀ W, Calls Tryd.prog 18 #[.string s] W fun e W' => e = .returned (.tuple #[.string R0, .bool R1]) ∧ Below W.heap.size W W') ∧
    Hid (∀ W, Calls Tryd.prog 19 #[.string s] W fun e W' => e = .returned (.tuple #[.string R0, .bool R1]) ∧ Below W.heap.size W W') := by
  cases h : lineL (bl s)
  · exact ⟨_, _, fun W => sSignalOf_no s W hs h, fun W => signalOfX_no s W hs h⟩
  · exact ⟨_, _, fun W => sSignalOf_yes s W hs h, fun W => signalOfX_line s W hs h⟩
end Go.Proofs.YtijhfmjkiijhiaaDoor
