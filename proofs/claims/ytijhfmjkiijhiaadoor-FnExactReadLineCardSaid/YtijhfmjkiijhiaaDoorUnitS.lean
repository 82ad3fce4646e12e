/-
  The runs of a line without its ends and its unit: l4Inner, l4Unit of the model; UnitOf. Used by the claims on chapter 4.
-/
import Derived.Test.YtijhfmjkiijhiaaDoorUnitW
namespace Go.Proofs.YtijhfmjkiijhiaaDoor
open Go.RowKit
set_option linter.unusedVariables false

theorem prs_one (l : List (Nat × Nat)) : ∀ u ∈ prs l, u.oneCell' = true := fun u hu => by
  simp only [prs, List.mem_flatMap] at hu
  obtain ⟨p, _, hu⟩ := hu
  simp only [List.mem_cons, List.not_mem_nil, or_false] at hu
  rcases hu with rfl | rfl <;> rfl
theorem inner_eq (rs : Rs) : innerL rs = (rs.take (innerTo rs)).drop (innerFrom rs) := rfl
theorem rs0_at {rs : Rs} {k : Nat} {d : Nat × Nat} (h : k < rs.length) : rs.getD k d = rs[k] := by rw [List.getD_eq_getElem?_getD, List.getElem?_eq_getElem h]; rfl
set_option maxHeartbeats 8000000 in
set_option maxRecDepth 8000 in
theorem sInner_any (s : ByteArray) (w : World) (hs : s.size ≤ 1048576) (hbt : ∀ c ∈ bl s, c = 48 ∨ c = 49) :
    Calls Tryd.prog 95 #[.string s] w fun e w' => RunOut (innerL (runsL (bl s))) w e w' := by
  obtain ⟨i0, hi', hz0, hz1, hz2⟩ := info_parts infoPair
  have F := Lib.hid fun w => sRuns_any s w hs hbt
  have hln : (runsL (bl s)).length ≤ 1048576 := Nat.le_trans (runsTo_le _ _) (by rw [bl_len]; exact hs)
  have HGd := Lib.hid (runsL_good hbt).1
  generalize runsL (bl s) = rs at F hln HGd ⊢
  clear hbt
  rcases Nat.eq_zero_or_pos rs.length with n0 | n0
  · obtain rfl : rs = [] := List.length_eq_zero_iff.1 n0
    have HQ : Hid (innerL ([] : Rs) = (([] : Rs).take 0).drop 0) := Lib.hid rfl
    clear n0
    go_enter Tryd.func95, Tryd.ntmps95
    go_wp2_with fail
    refine (F.out _).mono ?_
    rintro e w1 ⟨⟨g, c, rfl, hsv, hg, hf, hcc⟩, hb⟩
    skip
    skip
    have HS := Lib.hid hsv
    have HB1 := Lib.hid hb
    have HG1 := Lib.hid hg
    have hsz1 : w.heap.size ≤ w1.heap.size := hb.size
    have M0 : Hid ((w1.alloc (Obj.cells #[] 48)).ownsRow w1.heap.size 48 2 (.slice (some ⟨w1.heap.size, 0, none⟩) 0 0) 0 (prs [])) := Lib.hid (World.ownsRow_made (base := w1.heap.size) (e := 48) (size := 2) w1 #[] 0 (by simp) (by unfold maxLen; omega) rfl)
    have HCt : Hid (∀ (j : Nat) u, (prs (innerL ([] : Rs)))[j]? = some u → (w1.alloc (Obj.cells #[] 48)).cell? ((⟨g, 0 * 2, none⟩ : Addr).add j) = some u) := Lib.hid (by
      rw [HQ.out]
      exact srcV_cut (hsv.alloc _) 0 0)
    have HLn : Hid ((prs (innerL ([] : Rs))).length = (0 - 0) * 2) := Lib.hid (by rw [prs_len, HQ.out, List.length_drop, List.length_take]; omega)
    have HLn2 : Hid ((innerL ([] : Rs)).length = 0 - 0) := Lib.hid (by rw [HQ.out, List.length_drop, List.length_take]; omega)
    clear hsv hb hg hf
    go_wp2_with (at_builtin; refine wpList_append_own _ rfl _ _ 25 rfl w1.heap.size 48 i0 (.agg #[.int .i64 0, .int .i64 0]) 2 16 Tryd.underlying25 hi' hz0 hz1 hz2 rfl (by decide) (.slice (some ⟨w1.heap.size, 0, none⟩) 0 0) 0 (prs []) rfl M0.out ⟨g, 0 * 2, none⟩ (0 - 0) (c - 0) (prs (innerL ([] : Rs))) (by first | rfl | (subst hc1; rfl) | (rw [em4]; rfl)) HLn.out HCt.out (by intro u hu; exact prs_one _ u hu) (by unfold maxLen; omega) (by omega) (by simp) ?_; intro v' w7 hown' hgrow hnil)
    have HO : Hid (w7.ownsRow w1.heap.size 48 2 v' (innerL ([] : Rs)).length (prs (innerL ([] : Rs)))) := Lib.hid (by rw [HLn2.out]; simpa [prs] using hown')
    have HB7 : Hid (Below w1.heap.size w1 w7) := Lib.hid (((Below.refl w1.heap.size w1).alloc (Nat.le_refl _) _).grown hgrow (by simp) (fun q e => by have e2 : some w1.heap.size = some q := e; have := Option.some.inj e2; omega))
    have HN7 : Hid (v' ≠ .slice none 0 0) := Lib.hid (fun e => by have := (hnil.1 e).1; cases this)
    clear hown' hgrow hnil
    go_wp2
    go_ret
    obtain ⟨g', c', hv, hs', hg', hf', hcc'⟩ := seq_of_row2 HO.out HN7.out
    exact ⟨⟨g', c', by rw [← hv]; rfl, hs', Nat.le_trans HB1.out.size hg', hf', hcc'⟩, HB1.out.trans (HB7.out.mono HB1.out.size)⟩
  · have hfx : (rs.getD 0 (1, 0)).1 = (rs[0]).1 := by rw [rs0_at n0]
    have hx1 := (HGd.out.mem _ (List.getElem_mem n0)).1
    have hlast : rs.length - 1 < rs.length := by omega
    have hly : (rs.getD (rs.length - 1) (1, 0)).1 = (rs[rs.length - 1]).1 := by rw [rs0_at hlast]
    have hy1 := (HGd.out.mem _ (List.getElem_mem hlast)).1
    have hD0 : ∀ (W : World) a g, SrcV W a g (prs rs) → W.cell? ⟨g, 0, none⟩ = some (.int .i64 ((rs[0]).1 : Int)) := fun W a g h => h.2 _ _ (prs_at n0).1
    have hDL : ∀ (W : World) a g, SrcV W a g (prs rs) → W.cell? ⟨g, (rs.length - 1) * 2, none⟩ = some (.int .i64 ((rs[rs.length - 1]).1 : Int)) := fun W a g h => by
      have := h.2 _ _ (prs_at hlast).1
      rwa [Nat.mul_comm] at this
    generalize (rs[0]).1 = x at hfx hx1 hD0
    generalize (rs[rs.length - 1]).1 = y at hly hy1 hDL
    have HD0 := Lib.hid hD0
    have HDL := Lib.hid hDL
    clear hD0 hDL hlast
    obtain ⟨m, hm⟩ : ∃ m, rs.length = m + 1 := ⟨rs.length - 1, by omega⟩
    have em : (rs.length : Int) - 1 = (m : Int) := by omega
    have em2 : wrap64 ((rs.length : Int) - 1) = (m : Int) := by rw [IntWalk.wrap64_in _ (by omega)]; omega
    have em3 : IntKind.i64.wrap ((rs.length : Int) - 1) = (m : Int) := by rw [IntKind.wrap_i64]; omega
    have em4 : rs.length - 1 = m := by omega
    rw [em4] at HDL
    have g1 : (0 : Int) < (rs.length : Int) := by omega
    have g2 : 0 < rs.length := n0
    have g3 : (m : Int) < (rs.length : Int) := by omega
    have g4 : (0 : Int) ≤ (m : Int) := by omega
    have g5 : m < rs.length := by omega
    have hxc : x = 0 ∨ x = 1 := by omega
    have hyc : y = 0 ∨ y = 1 := by omega
    rcases hxc with ex | ex
    · rcases Nat.eq_zero_or_pos m with m0 | m0
      · have HQ : Hid (innerL rs = (rs.take 1).drop 1) := Lib.hid (by
          have e1 : innerFrom rs = 1 := by unfold innerFrom; rw [if_pos ⟨n0, by rw [hfx]; exact ex⟩]
          have e2 : innerTo rs = 1 := by unfold innerTo; rw [e1, if_neg (by intro h; omega)]; omega
          rw [inner_eq, e1, e2])
        subst ex
        have q1 : ¬ (1 : Int) < (rs.length : Int) := by omega
        have q2 : ¬ 1 < rs.length := by omega
        have q3 : decide ((1 : Int) < (rs.length : Int)) = false := by simp; omega
        have q4 : (rs.length : Int) = 1 := by omega
        clear hfx hly n0 hm m0
        go_enter Tryd.func95, Tryd.ntmps95
        go_wp2_with fail
        refine (F.out _).mono ?_
        rintro e w1 ⟨⟨g, c, rfl, hsv, hg, hf, hcc⟩, hb⟩
        by_cases hc1 : c = 1
        · have d0 := HD0.out _ _ _ hsv
          skip
          have HS := Lib.hid hsv
          have HB1 := Lib.hid hb
          have HG1 := Lib.hid hg
          have hsz1 : w.heap.size ≤ w1.heap.size := hb.size
          have M0 : Hid ((w1.alloc (Obj.cells #[] 48)).ownsRow w1.heap.size 48 2 (.slice (some ⟨w1.heap.size, 0, none⟩) 0 0) 0 (prs [])) := Lib.hid (World.ownsRow_made (base := w1.heap.size) (e := 48) (size := 2) w1 #[] 0 (by simp) (by unfold maxLen; omega) rfl)
          have HCt : Hid (∀ (j : Nat) u, (prs (innerL rs))[j]? = some u → (w1.alloc (Obj.cells #[] 48)).cell? ((⟨g, 0, none⟩ : Addr).add j) = some u) := Lib.hid (by
            rw [HQ.out]
            have e0 : (rs.take 1).drop 1 = [] := by rw [List.drop_eq_nil_iff, List.length_take]; omega
            rw [e0]
            intro j u hu
            cases hu)
          have HLn : Hid ((prs (innerL rs)).length = (1 - 1) * 2) := Lib.hid (by rw [prs_len, HQ.out, List.length_drop, List.length_take]; omega)
          have HLn2 : Hid ((innerL rs).length = 1 - 1) := Lib.hid (by rw [HQ.out, List.length_drop, List.length_take]; omega)
          clear hsv hb hg hf
          go_wp2_with (at_builtin; refine wpList_append_own _ rfl _ _ 25 rfl w1.heap.size 48 i0 (.agg #[.int .i64 0, .int .i64 0]) 2 16 Tryd.underlying25 hi' hz0 hz1 hz2 rfl (by decide) (.slice (some ⟨w1.heap.size, 0, none⟩) 0 0) 0 (prs []) rfl M0.out ⟨g, 0, none⟩ (1 - 1) (c - 1) (prs (innerL rs)) (by first | rfl | (subst hc1; rfl) | (rw [em4]; rfl)) HLn.out HCt.out (by intro u hu; exact prs_one _ u hu) (by unfold maxLen; omega) (by omega) (by simp) ?_; intro v' w7 hown' hgrow hnil)
          have HO : Hid (w7.ownsRow w1.heap.size 48 2 v' (innerL rs).length (prs (innerL rs))) := Lib.hid (by rw [HLn2.out]; simpa [prs] using hown')
          have HB7 : Hid (Below w1.heap.size w1 w7) := Lib.hid (((Below.refl w1.heap.size w1).alloc (Nat.le_refl _) _).grown hgrow (by simp) (fun q e => by have e2 : some w1.heap.size = some q := e; have := Option.some.inj e2; omega))
          have HN7 : Hid (v' ≠ .slice none 0 0) := Lib.hid (fun e => by have := (hnil.1 e).1; cases this)
          clear hown' hgrow hnil
          go_wp2
          go_ret
          obtain ⟨g', c', hv, hs', hg', hf', hcc'⟩ := seq_of_row2 HO.out HN7.out
          exact ⟨⟨g', c', by rw [← hv]; rfl, hs', Nat.le_trans HB1.out.size hg', hf', hcc'⟩, HB1.out.trans (HB7.out.mono HB1.out.size)⟩
        · have d0 := HD0.out _ _ _ hsv
          skip
          have HS := Lib.hid hsv
          have HB1 := Lib.hid hb
          have HG1 := Lib.hid hg
          have hsz1 : w.heap.size ≤ w1.heap.size := hb.size
          have M0 : Hid ((w1.alloc (Obj.cells #[] 48)).ownsRow w1.heap.size 48 2 (.slice (some ⟨w1.heap.size, 0, none⟩) 0 0) 0 (prs [])) := Lib.hid (World.ownsRow_made (base := w1.heap.size) (e := 48) (size := 2) w1 #[] 0 (by simp) (by unfold maxLen; omega) rfl)
          have HCt : Hid (∀ (j : Nat) u, (prs (innerL rs))[j]? = some u → (w1.alloc (Obj.cells #[] 48)).cell? ((⟨g, 2, none⟩ : Addr).add j) = some u) := Lib.hid (by
            rw [HQ.out]
            have e0 : (rs.take 1).drop 1 = [] := by rw [List.drop_eq_nil_iff, List.length_take]; omega
            rw [e0]
            intro j u hu
            cases hu)
          have HLn : Hid ((prs (innerL rs)).length = (1 - 1) * 2) := Lib.hid (by rw [prs_len, HQ.out, List.length_drop, List.length_take]; omega)
          have HLn2 : Hid ((innerL rs).length = 1 - 1) := Lib.hid (by rw [HQ.out, List.length_drop, List.length_take]; omega)
          clear hsv hb hg hf
          go_wp2_with (at_builtin; refine wpList_append_own _ rfl _ _ 25 rfl w1.heap.size 48 i0 (.agg #[.int .i64 0, .int .i64 0]) 2 16 Tryd.underlying25 hi' hz0 hz1 hz2 rfl (by decide) (.slice (some ⟨w1.heap.size, 0, none⟩) 0 0) 0 (prs []) rfl M0.out ⟨g, 2, none⟩ (1 - 1) (c - 1) (prs (innerL rs)) (by first | rfl | (subst hc1; rfl) | (rw [em4]; rfl)) HLn.out HCt.out (by intro u hu; exact prs_one _ u hu) (by unfold maxLen; omega) (by omega) (by simp) ?_; intro v' w7 hown' hgrow hnil)
          have HO : Hid (w7.ownsRow w1.heap.size 48 2 v' (innerL rs).length (prs (innerL rs))) := Lib.hid (by rw [HLn2.out]; simpa [prs] using hown')
          have HB7 : Hid (Below w1.heap.size w1 w7) := Lib.hid (((Below.refl w1.heap.size w1).alloc (Nat.le_refl _) _).grown hgrow (by simp) (fun q e => by have e2 : some w1.heap.size = some q := e; have := Option.some.inj e2; omega))
          have HN7 : Hid (v' ≠ .slice none 0 0) := Lib.hid (fun e => by have := (hnil.1 e).1; cases this)
          clear hown' hgrow hnil
          go_wp2
          go_ret
          obtain ⟨g', c', hv, hs', hg', hf', hcc'⟩ := seq_of_row2 HO.out HN7.out
          exact ⟨⟨g', c', by rw [← hv]; rfl, hs', Nat.le_trans HB1.out.size hg', hf', hcc'⟩, HB1.out.trans (HB7.out.mono HB1.out.size)⟩
      · rcases hyc with ey | ey
        · have HQ : Hid (innerL rs = (rs.take m).drop 1) := Lib.hid (by
            have e1 : innerFrom rs = 1 := by unfold innerFrom; rw [if_pos ⟨n0, by rw [hfx]; exact ex⟩]
            have e2 : innerTo rs = m := by unfold innerTo; rw [e1, if_pos ⟨by omega, by rw [hly]; exact ey⟩]; omega
            rw [inner_eq, e1, e2])
          subst ex
          subst ey
          have q1 : (1 : Int) < (rs.length : Int) := by omega
          have q2 : 1 < rs.length := by omega
          have q5 : (1 : Int) ≤ (m : Int) := by omega
          clear hfx hly n0 hm m0
          go_enter Tryd.func95, Tryd.ntmps95
          go_wp2_with fail
          refine (F.out _).mono ?_
          rintro e w1 ⟨⟨g, c, rfl, hsv, hg, hf, hcc⟩, hb⟩
          have d0 := HD0.out _ _ _ hsv
          have dl := HDL.out _ _ _ hsv
          have HS := Lib.hid hsv
          have HB1 := Lib.hid hb
          have HG1 := Lib.hid hg
          have hsz1 : w.heap.size ≤ w1.heap.size := hb.size
          have M0 : Hid ((w1.alloc (Obj.cells #[] 48)).ownsRow w1.heap.size 48 2 (.slice (some ⟨w1.heap.size, 0, none⟩) 0 0) 0 (prs [])) := Lib.hid (World.ownsRow_made (base := w1.heap.size) (e := 48) (size := 2) w1 #[] 0 (by simp) (by unfold maxLen; omega) rfl)
          have HCt : Hid (∀ (j : Nat) u, (prs (innerL rs))[j]? = some u → (w1.alloc (Obj.cells #[] 48)).cell? ((⟨g, 1 * 2, none⟩ : Addr).add j) = some u) := Lib.hid (by
            rw [HQ.out]
            exact srcV_cut (hsv.alloc _) 1 m)
          have HLn : Hid ((prs (innerL rs)).length = (m - 1) * 2) := Lib.hid (by rw [prs_len, HQ.out, List.length_drop, List.length_take]; omega)
          have HLn2 : Hid ((innerL rs).length = m - 1) := Lib.hid (by rw [HQ.out, List.length_drop, List.length_take]; omega)
          clear hsv hb hg hf
          go_wp2_with (at_builtin; refine wpList_append_own _ rfl _ _ 25 rfl w1.heap.size 48 i0 (.agg #[.int .i64 0, .int .i64 0]) 2 16 Tryd.underlying25 hi' hz0 hz1 hz2 rfl (by decide) (.slice (some ⟨w1.heap.size, 0, none⟩) 0 0) 0 (prs []) rfl M0.out ⟨g, 1 * 2, none⟩ (m - 1) (c - 1) (prs (innerL rs)) (by first | rfl | (subst hc1; rfl) | (rw [em4]; rfl)) HLn.out HCt.out (by intro u hu; exact prs_one _ u hu) (by unfold maxLen; omega) (by omega) (by simp) ?_; intro v' w7 hown' hgrow hnil)
          have HO : Hid (w7.ownsRow w1.heap.size 48 2 v' (innerL rs).length (prs (innerL rs))) := Lib.hid (by rw [HLn2.out]; simpa [prs] using hown')
          have HB7 : Hid (Below w1.heap.size w1 w7) := Lib.hid (((Below.refl w1.heap.size w1).alloc (Nat.le_refl _) _).grown hgrow (by simp) (fun q e => by have e2 : some w1.heap.size = some q := e; have := Option.some.inj e2; omega))
          have HN7 : Hid (v' ≠ .slice none 0 0) := Lib.hid (fun e => by have := (hnil.1 e).1; cases this)
          clear hown' hgrow hnil
          go_wp2
          go_ret
          obtain ⟨g', c', hv, hs', hg', hf', hcc'⟩ := seq_of_row2 HO.out HN7.out
          exact ⟨⟨g', c', by rw [← hv]; rfl, hs', Nat.le_trans HB1.out.size hg', hf', hcc'⟩, HB1.out.trans (HB7.out.mono HB1.out.size)⟩
        · have HQ : Hid (innerL rs = (rs.take rs.length).drop 1) := Lib.hid (by
            have e1 : innerFrom rs = 1 := by unfold innerFrom; rw [if_pos ⟨n0, by rw [hfx]; exact ex⟩]
            have e2 : innerTo rs = rs.length := by unfold innerTo; rw [e1, if_neg (by intro h; rw [hly] at h; omega)]
            rw [inner_eq, e1, e2])
          subst ex
          subst ey
          have q1 : (1 : Int) < (rs.length : Int) := by omega
          have q2 : 1 < rs.length := by omega
          have q5 : (1 : Int) ≤ (rs.length : Int) := by omega
          clear hfx hly n0 hm m0
          go_enter Tryd.func95, Tryd.ntmps95
          go_wp2_with fail
          refine (F.out _).mono ?_
          rintro e w1 ⟨⟨g, c, rfl, hsv, hg, hf, hcc⟩, hb⟩
          have d0 := HD0.out _ _ _ hsv
          have dl := HDL.out _ _ _ hsv
          have HS := Lib.hid hsv
          have HB1 := Lib.hid hb
          have HG1 := Lib.hid hg
          have hsz1 : w.heap.size ≤ w1.heap.size := hb.size
          have M0 : Hid ((w1.alloc (Obj.cells #[] 48)).ownsRow w1.heap.size 48 2 (.slice (some ⟨w1.heap.size, 0, none⟩) 0 0) 0 (prs [])) := Lib.hid (World.ownsRow_made (base := w1.heap.size) (e := 48) (size := 2) w1 #[] 0 (by simp) (by unfold maxLen; omega) rfl)
          have HCt : Hid (∀ (j : Nat) u, (prs (innerL rs))[j]? = some u → (w1.alloc (Obj.cells #[] 48)).cell? ((⟨g, 1 * 2, none⟩ : Addr).add j) = some u) := Lib.hid (by
            rw [HQ.out]
            exact srcV_cut (hsv.alloc _) 1 rs.length)
          have HLn : Hid ((prs (innerL rs)).length = (rs.length - 1) * 2) := Lib.hid (by rw [prs_len, HQ.out, List.length_drop, List.length_take]; omega)
          have HLn2 : Hid ((innerL rs).length = rs.length - 1) := Lib.hid (by rw [HQ.out, List.length_drop, List.length_take]; omega)
          clear hsv hb hg hf
          go_wp2_with (at_builtin; refine wpList_append_own _ rfl _ _ 25 rfl w1.heap.size 48 i0 (.agg #[.int .i64 0, .int .i64 0]) 2 16 Tryd.underlying25 hi' hz0 hz1 hz2 rfl (by decide) (.slice (some ⟨w1.heap.size, 0, none⟩) 0 0) 0 (prs []) rfl M0.out ⟨g, 1 * 2, none⟩ (rs.length - 1) (c - 1) (prs (innerL rs)) (by first | rfl | (subst hc1; rfl) | (rw [em4]; rfl)) HLn.out HCt.out (by intro u hu; exact prs_one _ u hu) (by unfold maxLen; omega) (by omega) (by simp) ?_; intro v' w7 hown' hgrow hnil)
          have HO : Hid (w7.ownsRow w1.heap.size 48 2 v' (innerL rs).length (prs (innerL rs))) := Lib.hid (by rw [HLn2.out]; simpa [prs] using hown')
          have HB7 : Hid (Below w1.heap.size w1 w7) := Lib.hid (((Below.refl w1.heap.size w1).alloc (Nat.le_refl _) _).grown hgrow (by simp) (fun q e => by have e2 : some w1.heap.size = some q := e; have := Option.some.inj e2; omega))
          have HN7 : Hid (v' ≠ .slice none 0 0) := Lib.hid (fun e => by have := (hnil.1 e).1; cases this)
          clear hown' hgrow hnil
          go_wp2
          go_ret
          obtain ⟨g', c', hv, hs', hg', hf', hcc'⟩ := seq_of_row2 HO.out HN7.out
          exact ⟨⟨g', c', by rw [← hv]; rfl, hs', Nat.le_trans HB1.out.size hg', hf', hcc'⟩, HB1.out.trans (HB7.out.mono HB1.out.size)⟩
    · rcases hyc with ey | ey
      · have HQ : Hid (innerL rs = (rs.take m).drop 0) := Lib.hid (by
          have e1 : innerFrom rs = 0 := by unfold innerFrom; rw [if_neg (by intro h; rw [hfx] at h; omega)]
          have e2 : innerTo rs = m := by unfold innerTo; rw [e1, if_pos ⟨by omega, by rw [hly]; exact ey⟩]; omega
          rw [inner_eq, e1, e2])
        subst ex
        subst ey
        clear hfx hly n0 hm
        go_enter Tryd.func95, Tryd.ntmps95
        go_wp2_with fail
        refine (F.out _).mono ?_
        rintro e w1 ⟨⟨g, c, rfl, hsv, hg, hf, hcc⟩, hb⟩
        have d0 := HD0.out _ _ _ hsv
        have dl := HDL.out _ _ _ hsv
        have HS := Lib.hid hsv
        have HB1 := Lib.hid hb
        have HG1 := Lib.hid hg
        have hsz1 : w.heap.size ≤ w1.heap.size := hb.size
        have M0 : Hid ((w1.alloc (Obj.cells #[] 48)).ownsRow w1.heap.size 48 2 (.slice (some ⟨w1.heap.size, 0, none⟩) 0 0) 0 (prs [])) := Lib.hid (World.ownsRow_made (base := w1.heap.size) (e := 48) (size := 2) w1 #[] 0 (by simp) (by unfold maxLen; omega) rfl)
        have HCt : Hid (∀ (j : Nat) u, (prs (innerL rs))[j]? = some u → (w1.alloc (Obj.cells #[] 48)).cell? ((⟨g, 0 * 2, none⟩ : Addr).add j) = some u) := Lib.hid (by
          rw [HQ.out]
          exact srcV_cut (hsv.alloc _) 0 m)
        have HLn : Hid ((prs (innerL rs)).length = (m - 0) * 2) := Lib.hid (by rw [prs_len, HQ.out, List.length_drop, List.length_take]; omega)
        have HLn2 : Hid ((innerL rs).length = m - 0) := Lib.hid (by rw [HQ.out, List.length_drop, List.length_take]; omega)
        clear hsv hb hg hf
        go_wp2_with (at_builtin; refine wpList_append_own _ rfl _ _ 25 rfl w1.heap.size 48 i0 (.agg #[.int .i64 0, .int .i64 0]) 2 16 Tryd.underlying25 hi' hz0 hz1 hz2 rfl (by decide) (.slice (some ⟨w1.heap.size, 0, none⟩) 0 0) 0 (prs []) rfl M0.out ⟨g, 0 * 2, none⟩ (m - 0) (c - 0) (prs (innerL rs)) (by first | rfl | (subst hc1; rfl) | (rw [em4]; rfl)) HLn.out HCt.out (by intro u hu; exact prs_one _ u hu) (by unfold maxLen; omega) (by omega) (by simp) ?_; intro v' w7 hown' hgrow hnil)
        have HO : Hid (w7.ownsRow w1.heap.size 48 2 v' (innerL rs).length (prs (innerL rs))) := Lib.hid (by rw [HLn2.out]; simpa [prs] using hown')
        have HB7 : Hid (Below w1.heap.size w1 w7) := Lib.hid (((Below.refl w1.heap.size w1).alloc (Nat.le_refl _) _).grown hgrow (by simp) (fun q e => by have e2 : some w1.heap.size = some q := e; have := Option.some.inj e2; omega))
        have HN7 : Hid (v' ≠ .slice none 0 0) := Lib.hid (fun e => by have := (hnil.1 e).1; cases this)
        clear hown' hgrow hnil
        go_wp2
        go_ret
        obtain ⟨g', c', hv, hs', hg', hf', hcc'⟩ := seq_of_row2 HO.out HN7.out
        exact ⟨⟨g', c', by rw [← hv]; rfl, hs', Nat.le_trans HB1.out.size hg', hf', hcc'⟩, HB1.out.trans (HB7.out.mono HB1.out.size)⟩
      · have HQ : Hid (innerL rs = (rs.take rs.length).drop 0) := Lib.hid (by
          have e1 : innerFrom rs = 0 := by unfold innerFrom; rw [if_neg (by intro h; rw [hfx] at h; omega)]
          have e2 : innerTo rs = rs.length := by unfold innerTo; rw [e1, if_neg (by intro h; rw [hly] at h; omega)]
          rw [inner_eq, e1, e2])
        subst ex
        subst ey
        clear hfx hly n0 hm
        go_enter Tryd.func95, Tryd.ntmps95
        go_wp2_with fail
        refine (F.out _).mono ?_
        rintro e w1 ⟨⟨g, c, rfl, hsv, hg, hf, hcc⟩, hb⟩
        have d0 := HD0.out _ _ _ hsv
        have dl := HDL.out _ _ _ hsv
        have HS := Lib.hid hsv
        have HB1 := Lib.hid hb
        have HG1 := Lib.hid hg
        have hsz1 : w.heap.size ≤ w1.heap.size := hb.size
        have M0 : Hid ((w1.alloc (Obj.cells #[] 48)).ownsRow w1.heap.size 48 2 (.slice (some ⟨w1.heap.size, 0, none⟩) 0 0) 0 (prs [])) := Lib.hid (World.ownsRow_made (base := w1.heap.size) (e := 48) (size := 2) w1 #[] 0 (by simp) (by unfold maxLen; omega) rfl)
        have HCt : Hid (∀ (j : Nat) u, (prs (innerL rs))[j]? = some u → (w1.alloc (Obj.cells #[] 48)).cell? ((⟨g, 0 * 2, none⟩ : Addr).add j) = some u) := Lib.hid (by
          rw [HQ.out]
          exact srcV_cut (hsv.alloc _) 0 rs.length)
        have HLn : Hid ((prs (innerL rs)).length = (rs.length - 0) * 2) := Lib.hid (by rw [prs_len, HQ.out, List.length_drop, List.length_take]; omega)
        have HLn2 : Hid ((innerL rs).length = rs.length - 0) := Lib.hid (by rw [HQ.out, List.length_drop, List.length_take]; omega)
        clear hsv hb hg hf
        go_wp2_with (at_builtin; refine wpList_append_own _ rfl _ _ 25 rfl w1.heap.size 48 i0 (.agg #[.int .i64 0, .int .i64 0]) 2 16 Tryd.underlying25 hi' hz0 hz1 hz2 rfl (by decide) (.slice (some ⟨w1.heap.size, 0, none⟩) 0 0) 0 (prs []) rfl M0.out ⟨g, 0 * 2, none⟩ (rs.length - 0) (c - 0) (prs (innerL rs)) (by first | rfl | (subst hc1; rfl) | (rw [em4]; rfl)) HLn.out HCt.out (by intro u hu; exact prs_one _ u hu) (by unfold maxLen; omega) (by omega) (by simp) ?_; intro v' w7 hown' hgrow hnil)
        have HO : Hid (w7.ownsRow w1.heap.size 48 2 v' (innerL rs).length (prs (innerL rs))) := Lib.hid (by rw [HLn2.out]; simpa [prs] using hown')
        have HB7 : Hid (Below w1.heap.size w1 w7) := Lib.hid (((Below.refl w1.heap.size w1).alloc (Nat.le_refl _) _).grown hgrow (by simp) (fun q e => by have e2 : some w1.heap.size = some q := e; have := Option.some.inj e2; omega))
        have HN7 : Hid (v' ≠ .slice none 0 0) := Lib.hid (fun e => by have := (hnil.1 e).1; cases this)
        clear hown' hgrow hnil
        go_wp2
        go_ret
        obtain ⟨g', c', hv, hs', hg', hf', hcc'⟩ := seq_of_row2 HO.out HN7.out
        exact ⟨⟨g', c', by rw [← hv]; rfl, hs', Nat.le_trans HB1.out.size hg', hf', hcc'⟩, HB1.out.trans (HB7.out.mono HB1.out.size)⟩
end Go.Proofs.YtijhfmjkiijhiaaDoor
