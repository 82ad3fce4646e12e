/-
  SignalOf, the program's and the model's: both answer alike; l4Signal of the model. Used by the claims on chapter 4.
-/
import Derived.Test.YtijhfmjkiijhiaaDoorRunsB
import Derived.Test.YtijhfmjkiijhiaaDoorSgnW
import Derived.Test.YtijhfmjkiijhiaaDoorLnW
import Derived.Test.YtijhfmjkiijhiaaDoorEncS0
namespace Go.Proofs.YtijhfmjkiijhiaaDoor
open Go.RowKit
set_option linter.unusedVariables false

theorem bl_mk0 (l : Bs) : bl ⟨l.toArray⟩ = l := by simp [bl]
def sigS (l : Bs) : Bs := if sigOk l = true then sgnL (runsL l) else []
theorem rs_at0 {rs : Rs} {k : Nat} (h : k < rs.length) : rs.getD k (0, 0) = rs[k] := by rw [List.getD_eq_getElem?_getD, List.getElem?_eq_getElem h]; rfl
theorem sgn_next {rs : Rs} {k : Nat} (h : k < rs.length) : sgnTo rs (k + 1) = sgnTo rs k ++ runSgn rs[k] := by
  show sgnTo rs k ++ runSgn (rs.getD k (0, 0)) = _
  rw [rs_at0 h]
theorem all_next {rs : Rs} {k : Nat} (h : k < rs.length) (h1 : (rs.take k).all runOk = true) (h2 : runOk rs[k] = true) : (rs.take (k + 1)).all runOk = true := by
  rw [List.take_succ_eq_append_getElem h, List.all_append, h1]
  simp [h2]
theorem all_not {rs : Rs} {k : Nat} (h : k < rs.length) (h2 : runOk rs[k] = false) : rs.all runOk = false := by
  rw [List.all_eq_false]
  exact ⟨_, List.getElem_mem h, by rw [h2]; simp⟩
theorem text_eq (l : Bs) (s : ByteArray) (b : Bool) (h : (l == bl s) = b) : (l == s.toList) = b ∧ (l != s.toList) = !b := by
  have e2 : s.toList = bl s := ByteArray.toList_eq s
  rw [e2]
  exact ⟨h, by rw [bne, h]⟩
set_option maxHeartbeats 8000000 in
set_option maxRecDepth 8000 in
theorem signalOfX_line (s : ByteArray) (w : World) (hs : s.size ≤ 1048576) (h : lineL (bl s) = true) :
    Calls Tryd.prog 19 #[.string s] w fun e w' => e = .returned (.tuple #[.string ⟨(sigS (bl s)).toArray⟩, .bool (sigOk (bl s))]) ∧ Below w.heap.size w w' := by
  have F := Lib.hid fun w => runsOfX_yes s w hs h
  have hln := runs_len h
  have HK := Lib.hid (sigOk_line h)
  have HSt : Hid (sigS (bl s) = if sigOk (bl s) = true then sgnL (runsL (bl s)) else []) := Lib.hid rfl
  have HGd := Lib.hid (runsL_good (fun c hc => line_beat h (c := c) hc)).1
  generalize runsL (bl s) = rs at F hln HK HSt HGd
  generalize sigOk (bl s) = ok at HK HSt ⊢
  generalize sigS (bl s) = r at HSt ⊢
  have hsz : (sgnL rs).length ≤ 200 := Nat.le_trans (sgnTo_le rs rs.length) hln
  have HL0 : Hid (lineOk (sgnL rs) = false → ∀ w, Calls Tryd.prog 56 #[.string ⟨(sgnL rs).toArray⟩] w fun e w' => e = .returned (.tuple #[.string ByteArray.empty, .bool false]) ∧ Below w.heap.size w w') := Lib.hid fun hl w => lineOf_no _ w (by rw [sizeE]; omega) (by rw [bl_mk0]; exact hl)
  have HL1 : Hid (lineOk (sgnL rs) = true → ∀ w, Calls Tryd.prog 56 #[.string ⟨(sgnL rs).toArray⟩] w fun e w' => e = .returned (.tuple #[.string ⟨(lnL (sgnL rs)).toArray⟩, .bool true]) ∧ Below w.heap.size w w') := Lib.hid fun hl w => by
    have := lineOf_yes ⟨(sgnL rs).toArray⟩ w (by rw [sizeE]; omega) (by rw [bl_mk0]; exact hl)
    rwa [bl_mk0] at this
  clear h
  go_enter Tryd.func19, Tryd.ntmps19
  go_wp2_with fail
  refine (F.out _).mono ?_
  rintro e w1 ⟨a, g, c, rfl, hsv, _, _, hb⟩
  have HS := Lib.hid fun W hb => hsv.below (w' := W) hb
  have HB1 := Lib.hid hb
  clear hsv hb F
  go_wp2
  go_loopw [6, 22] (fun sv v wr => ∃ (k : Nat) (l : Bs), v = .int .i64 k ∧ k ≤ rs.length ∧ sv = .string ⟨l.toArray⟩ ∧ l.length ≤ k ∧ Hid (l = sgnTo rs k) ∧ Hid ((rs.take k).all runOk = true) ∧ Hid (Below w1.heap.size w1 wr)) (fun _ v _ => rs.length - (intOf v).toNat)
  case atStart => exact ⟨0, [], rfl, Nat.zero_le _, rfl, Nat.zero_le _, Lib.hid rfl, Lib.hid (by simp), Lib.hid (Below.refl _ _)⟩
  case round =>
    obtain ⟨k, l, rfl, hk, rfl, hl, HL, HA, HB⟩ := hrel
    by_cases hlt : k < rs.length
    · have hp0 : 0 < (prs rs).length := by rw [prs_len]; omega
      obtain rfl := (HS.out wr HB.out).1 hp0
      have d1 := (HS.out wr HB.out).2 _ _ (prs_at hlt).1
      have d2 := (HS.out wr HB.out).2 _ _ (prs_at hlt).2
      have hx1 : (rs[k]).1 ≤ 1 := (HGd.out.mem _ (List.getElem_mem hlt)).1
      have HNx := Lib.hid (sgn_next hlt)
      have HAn := Lib.hid (fun h2 => all_next hlt HA.out h2)
      have HNo := Lib.hid (fun h2 => all_not hlt h2)
      generalize rs[k] = pq at d1 d2 hx1 HNx HAn HNo
      obtain ⟨x, y⟩ := pq
      simp only at d1 d2 hx1
      have i0 : (0 : Int) ≤ (k : Int) := by omega
      have i1 : (k : Int) < (rs.length : Int) := by omega
      have e2 : k * 2 = 2 * k := Nat.mul_comm _ _
      rw [← e2] at d1 d2
      clear e2 hp0
      have hT := two_new wr (x : Int) (y : Int)
      have hld := load_two hT
      clear hT
      cases hok : runOk (x, y)
      · have HG := Lib.hid fun w => signsOf_no x y w hok
        have HE : Hid (ok = false) := Lib.hid (by rw [HK.out, HNo.out hok]; rfl)
        have HE2 : Hid (r = []) := Lib.hid (by rw [HSt.out, HE.out]; rfl)
        clear hok
        go_wp2_with fail
        refine (HG.out _).mono ?_
        rintro e w5 ⟨rfl, hb5⟩
        have HB5 : Hid (Below w1.heap.size w1 w5) := Lib.hid ((HB.out.alloc HB.out.size _).trans (hb5.mono (by have := HB.out.size; simp; omega)))
        clear hb5
        go_wp2
        (first | go_ret | go_ret2)
        exact ⟨by rw [HE.out, HE2.out]; rfl, HB1.out.trans (HB5.out.mono HB1.out.size)⟩
      · have HG := Lib.hid fun w => signsOf_yes x y w hok
        have HAn2 := Lib.hid (HAn.out hok)
        have hl1 : (runSgn (x, y)).length ≤ 1 := by unfold runSgn; split <;> (try split) <;> (try split) <;> simp
        have HV : Hid (((⟨l.toArray⟩ : ByteArray) ++ ⟨(runSgn (x, y)).toArray⟩) = ⟨(sgnTo rs (k + 1)).toArray⟩) := Lib.hid (by rw [HNx.out, ← HL.out, catB]; simp [bl])
        have HLn : Hid ((sgnTo rs (k + 1)).length ≤ k + 1) := Lib.hid (sgnTo_le rs (k + 1))
        generalize runSgn (x, y) = q at HG hl1 HV
        have p1 : ¬ 9223372036854775807 < l.length + q.length := by omega
        clear hok hl1 HNx HAn HNo
        go_wp2_with fail
        refine (HG.out _).mono ?_
        rintro e w5 ⟨rfl, hb5⟩
        have HB5 : Hid (Below w1.heap.size w1 w5) := Lib.hid ((HB.out.alloc HB.out.size _).trans (hb5.mono (by have := HB.out.size; simp; omega)))
        clear hb5
        go_wp2
        go_roundw
        case rel => exact ⟨k + 1, sgnTo rs (k + 1), by go_num, by omega, by first | rw [HV.out] | (rw [← HV.out]; simp), HLn.out, Lib.hid rfl, HAn2, HB5⟩
        case measure => simp [intOf]; omega
    · have hke : k = rs.length := by omega
      have HAll : Hid (rs.all runOk = true) := Lib.hid (by have := HA.out; rw [hke, List.take_length] at this; exact this)
      have HLe : Hid (l = sgnL rs) := Lib.hid (by rw [HL.out, hke, sgnL])
      have hi1 : ¬ (k : Int) < (rs.length : Int) := by omega
      clear hke
      cases hlo : lineOk (sgnL rs)
      · have G := Lib.hid (HL0.out hlo)
        have HE : Hid (ok = false) := Lib.hid (by rw [HK.out, HAll.out, hlo]; rfl)
        have HE2 : Hid (r = []) := Lib.hid (by rw [HSt.out, HE.out]; rfl)
        rw [← HLe.out] at G
        clear hlo HL0 HL1
        go_wp2_with fail
        refine (G.out _).mono ?_
        rintro e w5 ⟨rfl, hb5⟩
        have HB5 : Hid (Below w1.heap.size w1 w5) := Lib.hid (HB.out.trans (hb5.mono HB.out.size))
        clear hb5
        go_wp2
        (first | go_ret | go_ret2)
        exact ⟨by rw [HE.out, HE2.out]; rfl, HB1.out.trans (HB5.out.mono HB1.out.size)⟩
      · have G := Lib.hid (HL1.out hlo)
        rw [← HLe.out] at G
        cases heq : (lnL l == bl s)
        · have HE : Hid (ok = false) := Lib.hid (by rw [HK.out, HAll.out, hlo, ← HLe.out, heq]; rfl)
          have HE2 : Hid (r = []) := Lib.hid (by rw [HSt.out, HE.out]; rfl)
          obtain ⟨t1, t2⟩ := text_eq _ s _ heq
          generalize lnL l = z at G t1 t2
          clear hlo HL0 HL1 heq
          go_wp2_with fail
          refine (G.out _).mono ?_
          rintro e w5 ⟨rfl, hb5⟩
          have HB5 : Hid (Below w1.heap.size w1 w5) := Lib.hid (HB.out.trans (hb5.mono HB.out.size))
          clear hb5
          go_wp2
          (first | go_ret | go_ret2)
          exact ⟨by rw [HE.out, HE2.out]; rfl, HB1.out.trans (HB5.out.mono HB1.out.size)⟩
        · have HE : Hid (ok = true) := Lib.hid (by rw [HK.out, HAll.out, hlo, ← HLe.out, heq]; rfl)
          have HE2 : Hid (r = l) := Lib.hid (by rw [HSt.out, HE.out, HLe.out]; rfl)
          obtain ⟨t1, t2⟩ := text_eq _ s _ heq
          generalize lnL l = z at G t1 t2
          clear hlo HL0 HL1 heq
          go_wp2_with fail
          refine (G.out _).mono ?_
          rintro e w5 ⟨rfl, hb5⟩
          have HB5 : Hid (Below w1.heap.size w1 w5) := Lib.hid (HB.out.trans (hb5.mono HB.out.size))
          clear hb5
          go_wp2
          (first | go_ret | go_ret2)
          exact ⟨by rw [HE.out, HE2.out]; rfl, HB1.out.trans (HB5.out.mono HB1.out.size)⟩
end Go.Proofs.YtijhfmjkiijhiaaDoor
