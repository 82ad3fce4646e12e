/-
  clashOf of the board. Used by the claims on chapter 10.
-/
import Derived.Test.YtiialbnfgichhaaMeetW
import Derived.Deep.RegionHeld3
namespace Go.Proofs.Ytiialbnfgichhaa
open Go.RowKit
set_option linter.unusedVariables false
set_option linter.unusedSimpArgs false
theorem res_hpB2 {fn : Func} {p u : Tmp} (h : fn.results = #[.cell p 89, .tmp u]) (tmps : Array Value) {w : World} {g : Nat} {j : Hp} (hp : tmps.getD p undef = .pointer (some ⟨g, 0, none⟩)) (hb : HpB 89 w g j) : (results fn tmps).run Try.prog w = .ok (.tuple #[.agg #[.int .i64 j.jb, .int .i64 j.fr, .int .i64 j.bg], tmps.getD u undef]) w := by
  have hp' : tmps[p]?.getD undef = .pointer (some ⟨g, 0, none⟩) := by simpa using hp
  simp [results, h, hp', asAddr, load_hpBI hb]
/-- What clashOf answers: a hop that is placed and meets another one, or none does. -/
def ClOut (d : Bd) (h : Hp) (e : Ending) : Prop := ∃ (r : Hp) (b : Bool), e = .returned (.tuple #[.agg #[.int .i64 r.jb, .int .i64 r.fr, .int .i64 r.bg], .bool b]) ∧ ((b = true ∧ r ∈ d.ps ∧ clash d.l h r = true) ∨ (b = false ∧ ∀ o ∈ d.ps, clash d.l h o = false))
theorem Brd.pc0 {d : Bd} {W : World} (h : Brd d W) {k : Nat} (hk : k < d.ps.length) : d.ap = some ⟨d.gp, 0, none⟩ := h.hs.1 (by rw [hps_len]; omega)
theorem Brd.pat {d : Bd} {W : World} (h : Brd d W) {k : Nat} (hk : k < d.ps.length) : W.cell? ⟨d.gp, k * 3, none⟩ = some (.int .i64 (d.ps[k]).jb) ∧ W.cell? ⟨d.gp, k * 3 + 1, none⟩ = some (.int .i64 (d.ps[k]).fr) ∧ W.cell? ⟨d.gp, k * 3 + 2, none⟩ = some (.int .i64 (d.ps[k]).bg) :=
  ⟨h.hs.2 _ _ (hps_at hk).1, h.hs.2 _ _ (hps_at hk).2.1, h.hs.2 _ _ (hps_at hk).2.2⟩

set_option maxHeartbeats 8000000 in
set_option maxRecDepth 20000 in
theorem clashOf_any (d : Bd) (n : Int) (hv : JobsV n d.l) (hps : ∀ o ∈ d.ps, HpV d.l o) (hlen : d.ps.length ≤ 1048576) (h : Hp) (hh : HpV d.l h) (w : World) (hB : Brd d w) :
    Calls Try.prog 148 #[.pointer (some ⟨d.B, 0, none⟩), .agg #[.int .i64 h.jb, .int .i64 h.fr, .int .i64 h.bg]] w fun e w' => ClOut d h e ∧ Below w.heap.size w w' := by
  have HB := Lib.hid ((below_alloc w (.cells #[.int .i64 h.jb, .int .i64 h.fr, .int .i64 h.bg] 89)).alloc (by simp) (.cells #[.int .i64 0, .int .i64 0, .int .i64 0] 89))
  have HT1 := Lib.hid ((hpB_new 89 w h).below (below_alloc _ (.cells #[.int .i64 0, .int .i64 0, .int .i64 0] 89)))
  have HT2 := Lib.hid (hpB_new 89 (w.alloc (.cells #[.int .i64 h.jb, .int .i64 h.fr, .int .i64 h.bg] 89)) ⟨0, 0, 0⟩)
  have es : (w.alloc (.cells #[.int .i64 h.jb, .int .i64 h.fr, .int .i64 h.bg] 89)).heap.size = w.heap.size + 1 := by simp
  rw [es] at HT2
  clear es
  have HBr := Lib.hid fun W hb => hB.below (W' := W) hb
  have HPs := Lib.hid hps
  have HVh := Lib.hid hh
  have HJ := Lib.hid hv
  clear hv hh hB hps
  have hpc := (HBr.out _ HB.out).pc
  go_enter Try.func148, Try.ntmps148
  go_wp2
  clear hpc
  generalize hW0 : (w.alloc (.cells #[.int .i64 h.jb, .int .i64 h.fr, .int .i64 h.bg] 89)).alloc (.cells #[.int .i64 0, .int .i64 0, .int .i64 0] 89) = W0 at HT1 HT2 HB ⊢
  clear hW0
  go_loopw [13] (fun v wr => ∃ k : Nat, v = .int .i64 (k : Int) ∧ k ≤ d.ps.length ∧ Hid (∀ j (hj : j < d.ps.length), j < k → clash d.l h d.ps[j] = false) ∧ Hid (Below W0.heap.size W0 wr)) (fun v _ => d.ps.length - (intOf v).toNat)
  case atStart => exact ⟨0, rfl, Nat.zero_le _, Lib.hid (fun j _ hj => by omega), Lib.hid (Below.refl _ _)⟩
  case round =>
    obtain ⟨k, rfl, hk, HN, HBw⟩ := hrel
    by_cases hlt : k < d.ps.length
    rotate_left
    · obtain rfl : k = d.ps.length := by omega
      have HNo : Hid (∀ o ∈ d.ps, clash d.l h o = false) := Lib.hid (fun o ho => by
        obtain ⟨j, hj, rfl⟩ := List.getElem_of_mem ho
        exact HN.out j hj hj)
      have hZ := HT2.out.below HBw.out
      have f0 := hZ.frozen 0
      have f1 := hZ.frozen 1
      have f2 := hZ.frozen 2
      have e0 := hZ.cell0
      have e1 := hZ.cell1
      have e2 := hZ.cell2
      clear hZ
      go_wp2
      exact bodyPost_ret (res_hpB2 rfl _ rfl ((HT2.out.below HBw.out).set3 0 0 0)) rfl ⟨⟨_, _, rfl, Or.inr ⟨rfl, HNo.out⟩⟩, ((((HB.out.trans (HBw.out.mono HB.out.size)).setCell (p := ⟨w.heap.size + 1, 0, none⟩) (by simp) _).setCell (p := ⟨w.heap.size + 1, 1, none⟩) (by simp) _).setCell (p := ⟨w.heap.size + 1, 2, none⟩) (by simp) _)⟩
    have hBw := HBr.out wr (HB.out.trans (HBw.out.mono HB.out.size))
    have hap := hBw.pc0 hlt
    have q0 := (hBw.pat hlt).1
    have q1 := (hBw.pat hlt).2.1
    have q2 := (hBw.pat hlt).2.2
    have HMem := Lib.hid (List.getElem_mem hlt)
    have HNk : Hid (clash d.l h d.ps[k] = false → ∀ j (hj : j < d.ps.length), j < k + 1 → clash d.l h d.ps[j] = false) := Lib.hid (fun hc j hj hjk => by
      by_cases e : j = k
      · subst e; exact hc
      · exact HN.out j hj (by omega))
    generalize d.ps[k] = o at q0 q1 q2 HMem HNk
    clear hBw HN
    have i0 : (0 : Int) ≤ (k : Int) := by omega
    have i1 : (k : Int) < (d.ps.length : Int) := by omega
    have HVo := Lib.hid (HPs.out o HMem.out)
    have HO := Lib.hid (hpB_new 89 wr o)
    have HB1 := Lib.hid (HBw.out.alloc HBw.out.size (.cells #[.int .i64 o.jb, .int .i64 o.fr, .int .i64 o.bg] 89))
    have HG : Hid (w.heap.size < wr.heap.size) := Lib.hid (Nat.lt_of_lt_of_le HT1.out.lt HBw.out.size)
    rw [hap]
    clear hap
    go_wp2_with fail
    generalize hg2 : wr.heap.size = g2 at HO HG ⊢
    clear hg2
    generalize wr.alloc (.cells #[.int .i64 o.jb, .int .i64 o.fr, .int .i64 o.bg] 89) = W1 at HO HB1 ⊢
    have HTh := Lib.hid (HT1.out.below HB1.out)
    have hcl : clash d.l h o = (meet d.l h o && (decide (h.bg < en d.l o) && decide (o.bg < en d.l h))) := rfl
    have HCl := Lib.hid hcl
    clear hcl
    have hBr1 : ∀ W, Below W1.heap.size W1 W → Brd d W := fun W hb => HBr.out W (HB.out.trans ((HB1.out.trans (hb.mono HB1.out.size)).mono HB.out.size))
    have HM := Lib.hid fun W hb => doMeet_any d n HJ.out h o HVh.out HVo.out W (hBr1 W hb)
    have HEo := Lib.hid fun W hb => endOf_any d n HJ.out o HVo.out W (hBr1 W hb)
    have HEh := Lib.hid fun W hb => endOf_any d n HJ.out h HVh.out W (hBr1 W hb)
    clear hBr1
    have HBd : Hid (Below W1.heap.size W1 W1.drew) := Lib.hid (Below.refl W1.heap.size W1).drew
    have HQ : Hid (∀ W, Below W1.heap.size W1 W → W.cell? ⟨w.heap.size, 0, none⟩ = some (.int .i64 h.jb) ∧ W.cell? ⟨w.heap.size, 1, none⟩ = some (.int .i64 h.fr) ∧ W.cell? ⟨w.heap.size, 2, none⟩ = some (.int .i64 h.bg) ∧ W.cell? ⟨g2, 0, none⟩ = some (.int .i64 o.jb) ∧ W.cell? ⟨g2, 1, none⟩ = some (.int .i64 o.fr) ∧ W.cell? ⟨g2, 2, none⟩ = some (.int .i64 o.bg)) := Lib.hid fun W hb =>
      ⟨(HTh.out.below hb).cell0, (HTh.out.below hb).cell1, (HTh.out.below hb).cell2, (HO.out.below hb).cell0, (HO.out.below hb).cell1, (HO.out.below hb).cell2⟩
    obtain ⟨c0, c1, c2, c3, c4, c5⟩ := HQ.out W1 (Below.refl _ _)
    have HW : Hid (∀ W, Below W1.heap.size W1 W → Below W0.heap.size W0 W) := Lib.hid fun W hb => HB1.out.trans (hb.mono HB1.out.size)
    have HZ : Hid (∀ W, Below W1.heap.size W1 W → HpB 89 W (w.heap.size + 1) ⟨0, 0, 0⟩) := Lib.hid fun W hb => HT2.out.below (HW.out W hb)
    generalize hX : en d.l o = X at HEo HCl
    generalize hY : en d.l h = Y at HEh HCl
    generalize hM : meet d.l h o = m at HM HCl
    clear hX hY hM q0 q1 q2 HO HTh HB1 HT1 HBr HPs HJ HBw HVh HVo
    obtain ⟨hjb, hfr, hbg⟩ := h
    obtain ⟨ojb, ofr, obg⟩ := o
    dsimp only at c0 c1 c2 c3 c4 c5 HM HEo HEh HQ HCl ⊢
    cases m with
    | false =>
      have HD : Hid (clash d.l ⟨hjb, hfr, hbg⟩ ⟨ojb, ofr, obg⟩ = false) := Lib.hid (by rw [HCl.out, Bool.false_and])
      refine wp_region_held_drew (S := (fun w' : World => w'.cell? ⟨w.heap.size, 0, none⟩ = some (.int .i64 hjb) ∧ w'.cell? ⟨w.heap.size, 1, none⟩ = some (.int .i64 hfr) ∧ w'.cell? ⟨w.heap.size, 2, none⟩ = some (.int .i64 hbg) ∧ w'.cell? ⟨g2, 0, none⟩ = some (.int .i64 ojb) ∧ w'.cell? ⟨g2, 1, none⟩ = some (.int .i64 ofr) ∧ w'.cell? ⟨g2, 2, none⟩ = some (.int .i64 obg))) (by kernel_rfl) (HQ.out _ HBd.out) (fun hHeld => ?_)
      refine' wpAnyH_take (i := 0) (v := _) (by (try simp only [List.getElem?_toArray, List.getElem?_cons_succ, List.getElem?_cons_zero]); rfl) (by kernel_rfl) (by kernel_rfl) (by kernel_rfl) (by exact fun _ _ _ h => h) (Or.inl ⟨(by kernel_rfl), ?hyHBm0⟩) hHeld ?restHBm0
      case hyHBm0 => (intro w hSw; (try dsimp only at hSw); go_simp; (try with_reducible rfl))
      (try simp only [Act.put, List.setIfInBounds_toArray, List.set_cons_zero, List.set_cons_succ])
      refine' wpAnyH_take (i := 1) (v := _) (by (try simp only [List.getElem?_toArray, List.getElem?_cons_succ, List.getElem?_cons_zero]); rfl) (by kernel_rfl) (by kernel_rfl) (by kernel_rfl) (by exact fun _ _ _ h => h) (Or.inl ⟨(by kernel_rfl), ?hyHBm1⟩) hHeld ?restHBm1
      case hyHBm1 => (intro w hSw; (try dsimp only at hSw); go_simp; (try with_reducible rfl))
      (try simp only [Act.put, List.setIfInBounds_toArray, List.set_cons_zero, List.set_cons_succ])
      refine' wpAnyH_take (i := 2) (v := _) (by (try simp only [List.getElem?_toArray, List.getElem?_cons_succ, List.getElem?_cons_zero]); rfl) (by kernel_rfl) (by kernel_rfl) (by kernel_rfl) (by exact fun _ _ _ h => h) (Or.inl ⟨(by kernel_rfl), ?hyHBm2⟩) hHeld ?restHBm2
      case hyHBm2 => (intro w hSw; (try dsimp only at hSw); go_simp; (try with_reducible rfl))
      (try simp only [Act.put, List.setIfInBounds_toArray, List.set_cons_zero, List.set_cons_succ])
      refine wpAnyH_ready (rs := [3]) (by kernel_rfl) (by simp) ?_
      refine AllReadyH.cons (by (try simp only [List.getElem?_toArray, List.getElem?_cons_succ, List.getElem?_cons_zero]); rfl) (fun K hK => ?_) AllReadyH.nil
      go_simp
      (go_at_call 170; with_reducible refine (HM.out _ HBd.out).mono ?_; rintro e w2 ⟨rfl, hb⟩; have HBm : Hid (Below W1.heap.size W1 w2) := Lib.hid (HBd.out.trans (hb.mono HBd.out.size)); clear hb)
      go_wp2_with fail
      refine hK.out _ _ (HQ.out _ HBm.out) (fun hHeld => ?_)
      clear hK K
      (try simp only [Act.put, List.setIfInBounds_toArray, List.set_cons_zero, List.set_cons_succ])
      refine' wpAnyH_take (i := 4) (v := _) (by (try simp only [List.getElem?_toArray, List.getElem?_cons_succ, List.getElem?_cons_zero]); rfl) (by kernel_rfl) (by kernel_rfl) (by kernel_rfl) (by exact fun _ _ _ h => h) (Or.inl ⟨(by kernel_rfl), ?hyHBm4⟩) hHeld ?restHBm4
      case hyHBm4 => (intro w hSw; (try dsimp only at hSw); go_simp; (try with_reducible rfl))
      (try simp only [Act.put, List.setIfInBounds_toArray, List.set_cons_zero, List.set_cons_succ])
      refine wpAnyH_take (i := 5) (v := undef) (by (try simp only [List.getElem?_toArray, List.getElem?_cons_succ, List.getElem?_cons_zero]); rfl) (by kernel_rfl) (by kernel_rfl) (by kernel_rfl) (by exact fun _ _ _ h => h) (Or.inr ⟨(by kernel_rfl), rfl⟩) hHeld ?_
      (try simp only [Act.put, List.setIfInBounds_toArray, List.set_cons_zero, List.set_cons_succ])
      refine wpAnyH_take (i := 6) (v := undef) (by (try simp only [List.getElem?_toArray, List.getElem?_cons_succ, List.getElem?_cons_zero]); rfl) (by kernel_rfl) (by kernel_rfl) (by kernel_rfl) (by exact fun _ _ _ h => h) (Or.inr ⟨(by kernel_rfl), rfl⟩) hHeld ?_
      (try simp only [Act.put, List.setIfInBounds_toArray, List.set_cons_zero, List.set_cons_succ])
      refine wpAnyH_take (i := 7) (v := undef) (by (try simp only [List.getElem?_toArray, List.getElem?_cons_succ, List.getElem?_cons_zero]); rfl) (by kernel_rfl) (by kernel_rfl) (by kernel_rfl) (by exact fun _ _ _ h => h) (Or.inr ⟨(by kernel_rfl), rfl⟩) hHeld ?_
      (try simp only [Act.put, List.setIfInBounds_toArray, List.set_cons_zero, List.set_cons_succ])
      refine wpAnyH_take (i := 8) (v := undef) (by (try simp only [List.getElem?_toArray, List.getElem?_cons_succ, List.getElem?_cons_zero]); rfl) (by kernel_rfl) (by kernel_rfl) (by kernel_rfl) (by exact fun _ _ _ h => h) (Or.inr ⟨(by kernel_rfl), rfl⟩) hHeld ?_
      (try simp only [Act.put, List.setIfInBounds_toArray, List.set_cons_zero, List.set_cons_succ])
      refine wpAnyH_take (i := 9) (v := undef) (by (try simp only [List.getElem?_toArray, List.getElem?_cons_succ, List.getElem?_cons_zero]); rfl) (by kernel_rfl) (by kernel_rfl) (by kernel_rfl) (by exact fun _ _ _ h => h) (Or.inr ⟨(by kernel_rfl), rfl⟩) hHeld ?_
      (try simp only [Act.put, List.setIfInBounds_toArray, List.set_cons_zero, List.set_cons_succ])
      refine wpAnyH_take (i := 10) (v := undef) (by (try simp only [List.getElem?_toArray, List.getElem?_cons_succ, List.getElem?_cons_zero]); rfl) (by kernel_rfl) (by kernel_rfl) (by kernel_rfl) (by exact fun _ _ _ h => h) (Or.inr ⟨(by kernel_rfl), rfl⟩) hHeld ?_
      (try simp only [Act.put, List.setIfInBounds_toArray, List.set_cons_zero, List.set_cons_succ])
      refine' wpAnyH_take (i := 11) (v := _) (by (try simp only [List.getElem?_toArray, List.getElem?_cons_succ, List.getElem?_cons_zero]); rfl) (by kernel_rfl) (by kernel_rfl) (by kernel_rfl) (by exact fun _ _ _ h => h) (Or.inl ⟨(by kernel_rfl), ?hyHBm11⟩) hHeld ?restHBm11
      case hyHBm11 => (intro w hSw; (try dsimp only at hSw); go_simp; (try with_reducible rfl))
      (try simp only [Act.put, List.setIfInBounds_toArray, List.set_cons_zero, List.set_cons_succ])
      refine' wpAnyH_take (i := 12) (v := _) (by (try simp only [List.getElem?_toArray, List.getElem?_cons_succ, List.getElem?_cons_zero]); rfl) (by kernel_rfl) (by kernel_rfl) (by kernel_rfl) (by exact fun _ _ _ h => h) (Or.inl ⟨(by kernel_rfl), ?hyHBm12⟩) hHeld ?restHBm12
      case hyHBm12 => (intro w hSw; (try dsimp only at hSw); go_simp; (try with_reducible rfl))
      (try simp only [Act.put, List.setIfInBounds_toArray, List.set_cons_zero, List.set_cons_succ])
      refine wpAnyH_take (i := 13) (v := undef) (by (try simp only [List.getElem?_toArray, List.getElem?_cons_succ, List.getElem?_cons_zero]); rfl) (by kernel_rfl) (by kernel_rfl) (by kernel_rfl) (by exact fun _ _ _ h => h) (Or.inr ⟨(by kernel_rfl), rfl⟩) hHeld ?_
      (try simp only [Act.put, List.setIfInBounds_toArray, List.set_cons_zero, List.set_cons_succ])
      refine wpAnyH_take (i := 14) (v := undef) (by (try simp only [List.getElem?_toArray, List.getElem?_cons_succ, List.getElem?_cons_zero]); rfl) (by kernel_rfl) (by kernel_rfl) (by kernel_rfl) (by exact fun _ _ _ h => h) (Or.inr ⟨(by kernel_rfl), rfl⟩) hHeld ?_
      (try simp only [Act.put, List.setIfInBounds_toArray, List.set_cons_zero, List.set_cons_succ])
      refine wpAnyH_take (i := 15) (v := undef) (by (try simp only [List.getElem?_toArray, List.getElem?_cons_succ, List.getElem?_cons_zero]); rfl) (by kernel_rfl) (by kernel_rfl) (by kernel_rfl) (by exact fun _ _ _ h => h) (Or.inr ⟨(by kernel_rfl), rfl⟩) hHeld ?_
      (try simp only [Act.put, List.setIfInBounds_toArray, List.set_cons_zero, List.set_cons_succ])
      refine wpAnyH_take (i := 16) (v := undef) (by (try simp only [List.getElem?_toArray, List.getElem?_cons_succ, List.getElem?_cons_zero]); rfl) (by kernel_rfl) (by kernel_rfl) (by kernel_rfl) (by exact fun _ _ _ h => h) (Or.inr ⟨(by kernel_rfl), rfl⟩) hHeld ?_
      (try simp only [Act.put, List.setIfInBounds_toArray, List.set_cons_zero, List.set_cons_succ])
      refine wpAnyH_take (i := 17) (v := undef) (by (try simp only [List.getElem?_toArray, List.getElem?_cons_succ, List.getElem?_cons_zero]); rfl) (by kernel_rfl) (by kernel_rfl) (by kernel_rfl) (by exact fun _ _ _ h => h) (Or.inr ⟨(by kernel_rfl), rfl⟩) hHeld ?_
      (try simp only [Act.put, List.setIfInBounds_toArray, List.set_cons_zero, List.set_cons_succ])
      refine wpAnyH_take (i := 18) (v := undef) (by (try simp only [List.getElem?_toArray, List.getElem?_cons_succ, List.getElem?_cons_zero]); rfl) (by kernel_rfl) (by kernel_rfl) (by kernel_rfl) (by exact fun _ _ _ h => h) (Or.inr ⟨(by kernel_rfl), rfl⟩) hHeld ?_
      (try simp only [Act.put, List.setIfInBounds_toArray, List.set_cons_zero, List.set_cons_succ])
      refine' wpAnyH_take (i := 19) (v := _) (by (try simp only [List.getElem?_toArray, List.getElem?_cons_succ, List.getElem?_cons_zero]); rfl) (by kernel_rfl) (by kernel_rfl) (by kernel_rfl) (by exact fun _ _ _ h => h) (Or.inl ⟨(by kernel_rfl), ?hyHBm19⟩) hHeld ?restHBm19
      case hyHBm19 => (intro w hSw; (try dsimp only at hSw); go_simp; (try with_reducible rfl))
      (try simp only [Act.put, List.setIfInBounds_toArray, List.set_cons_zero, List.set_cons_succ])
      refine wpAnyH_done (by kernel_rfl) ?_ _
      all_goals (
        go_wp2
        go_roundw
        case rel => exact ⟨k + 1, by go_num, by omega, Lib.hid (HNk.out HD.out), Lib.hid (HW.out _ HBm.out)⟩
        case measure => simp [intOf]; omega)
    | true =>
    by_cases k1 : hbg < X
    rotate_left
    · have d1 : decide (hbg < X) = false := decide_eq_false k1
      have HD : Hid (clash d.l ⟨hjb, hfr, hbg⟩ ⟨ojb, ofr, obg⟩ = false) := Lib.hid (by rw [HCl.out, d1]; rfl)
      refine wp_region_held_drew (S := (fun w' : World => w'.cell? ⟨w.heap.size, 0, none⟩ = some (.int .i64 hjb) ∧ w'.cell? ⟨w.heap.size, 1, none⟩ = some (.int .i64 hfr) ∧ w'.cell? ⟨w.heap.size, 2, none⟩ = some (.int .i64 hbg) ∧ w'.cell? ⟨g2, 0, none⟩ = some (.int .i64 ojb) ∧ w'.cell? ⟨g2, 1, none⟩ = some (.int .i64 ofr) ∧ w'.cell? ⟨g2, 2, none⟩ = some (.int .i64 obg))) (by kernel_rfl) (HQ.out _ HBd.out) (fun hHeld => ?_)
      refine' wpAnyH_take (i := 0) (v := _) (by (try simp only [List.getElem?_toArray, List.getElem?_cons_succ, List.getElem?_cons_zero]); rfl) (by kernel_rfl) (by kernel_rfl) (by kernel_rfl) (by exact fun _ _ _ h => h) (Or.inl ⟨(by kernel_rfl), ?hyHBo0⟩) hHeld ?restHBo0
      case hyHBo0 => (intro w hSw; (try dsimp only at hSw); go_simp; (try with_reducible rfl))
      (try simp only [Act.put, List.setIfInBounds_toArray, List.set_cons_zero, List.set_cons_succ])
      refine' wpAnyH_take (i := 1) (v := _) (by (try simp only [List.getElem?_toArray, List.getElem?_cons_succ, List.getElem?_cons_zero]); rfl) (by kernel_rfl) (by kernel_rfl) (by kernel_rfl) (by exact fun _ _ _ h => h) (Or.inl ⟨(by kernel_rfl), ?hyHBo1⟩) hHeld ?restHBo1
      case hyHBo1 => (intro w hSw; (try dsimp only at hSw); go_simp; (try with_reducible rfl))
      (try simp only [Act.put, List.setIfInBounds_toArray, List.set_cons_zero, List.set_cons_succ])
      refine' wpAnyH_take (i := 2) (v := _) (by (try simp only [List.getElem?_toArray, List.getElem?_cons_succ, List.getElem?_cons_zero]); rfl) (by kernel_rfl) (by kernel_rfl) (by kernel_rfl) (by exact fun _ _ _ h => h) (Or.inl ⟨(by kernel_rfl), ?hyHBo2⟩) hHeld ?restHBo2
      case hyHBo2 => (intro w hSw; (try dsimp only at hSw); go_simp; (try with_reducible rfl))
      (try simp only [Act.put, List.setIfInBounds_toArray, List.set_cons_zero, List.set_cons_succ])
      refine wpAnyH_ready (rs := [3]) (by kernel_rfl) (by simp) ?_
      refine AllReadyH.cons (by (try simp only [List.getElem?_toArray, List.getElem?_cons_succ, List.getElem?_cons_zero]); rfl) (fun K hK => ?_) AllReadyH.nil
      go_simp
      (go_at_call 170; with_reducible refine (HM.out _ HBd.out).mono ?_; rintro e w2 ⟨rfl, hb⟩; have HBm : Hid (Below W1.heap.size W1 w2) := Lib.hid (HBd.out.trans (hb.mono HBd.out.size)); clear hb)
      go_wp2_with fail
      refine hK.out _ _ (HQ.out _ HBm.out) (fun hHeld => ?_)
      clear hK K
      (try simp only [Act.put, List.setIfInBounds_toArray, List.set_cons_zero, List.set_cons_succ])
      refine' wpAnyH_take (i := 4) (v := _) (by (try simp only [List.getElem?_toArray, List.getElem?_cons_succ, List.getElem?_cons_zero]); rfl) (by kernel_rfl) (by kernel_rfl) (by kernel_rfl) (by exact fun _ _ _ h => h) (Or.inl ⟨(by kernel_rfl), ?hyHBo4⟩) hHeld ?restHBo4
      case hyHBo4 => (intro w hSw; (try dsimp only at hSw); go_simp; (try with_reducible rfl))
      (try simp only [Act.put, List.setIfInBounds_toArray, List.set_cons_zero, List.set_cons_succ])
      refine' wpAnyH_take (i := 5) (v := _) (by (try simp only [List.getElem?_toArray, List.getElem?_cons_succ, List.getElem?_cons_zero]); rfl) (by kernel_rfl) (by kernel_rfl) (by kernel_rfl) (by exact fun _ _ _ h => h) (Or.inl ⟨(by kernel_rfl), ?hyHBo5⟩) hHeld ?restHBo5
      case hyHBo5 => (intro w hSw; (try dsimp only at hSw); go_simp; (try with_reducible rfl))
      (try simp only [Act.put, List.setIfInBounds_toArray, List.set_cons_zero, List.set_cons_succ])
      refine' wpAnyH_take (i := 6) (v := _) (by (try simp only [List.getElem?_toArray, List.getElem?_cons_succ, List.getElem?_cons_zero]); rfl) (by kernel_rfl) (by kernel_rfl) (by kernel_rfl) (by exact fun _ _ _ h => h) (Or.inl ⟨(by kernel_rfl), ?hyHBo6⟩) hHeld ?restHBo6
      case hyHBo6 => (intro w hSw; (try dsimp only at hSw); go_simp; (try with_reducible rfl))
      (try simp only [Act.put, List.setIfInBounds_toArray, List.set_cons_zero, List.set_cons_succ])
      refine' wpAnyH_take (i := 7) (v := _) (by (try simp only [List.getElem?_toArray, List.getElem?_cons_succ, List.getElem?_cons_zero]); rfl) (by kernel_rfl) (by kernel_rfl) (by kernel_rfl) (by exact fun _ _ _ h => h) (Or.inl ⟨(by kernel_rfl), ?hyHBo7⟩) hHeld ?restHBo7
      case hyHBo7 => (intro w hSw; (try dsimp only at hSw); go_simp; (try with_reducible rfl))
      (try simp only [Act.put, List.setIfInBounds_toArray, List.set_cons_zero, List.set_cons_succ])
      refine' wpAnyH_take (i := 8) (v := _) (by (try simp only [List.getElem?_toArray, List.getElem?_cons_succ, List.getElem?_cons_zero]); rfl) (by kernel_rfl) (by kernel_rfl) (by kernel_rfl) (by exact fun _ _ _ h => h) (Or.inl ⟨(by kernel_rfl), ?hyHBo8⟩) hHeld ?restHBo8
      case hyHBo8 => (intro w hSw; (try dsimp only at hSw); go_simp; (try with_reducible rfl))
      (try simp only [Act.put, List.setIfInBounds_toArray, List.set_cons_zero, List.set_cons_succ])
      refine wpAnyH_ready (rs := [9]) (by kernel_rfl) (by simp) ?_
      refine AllReadyH.cons (by (try simp only [List.getElem?_toArray, List.getElem?_cons_succ, List.getElem?_cons_zero]); rfl) (fun K hK => ?_) AllReadyH.nil
      go_simp
      (go_at_call 94; with_reducible refine (HEo.out _ HBm.out).mono ?_; rintro e w3 ⟨rfl, hb⟩; have HBo : Hid (Below W1.heap.size W1 w3) := Lib.hid (HBm.out.trans (hb.mono HBm.out.size)); clear hb)
      go_wp2_with fail
      refine hK.out _ _ (HQ.out _ HBo.out) (fun hHeld => ?_)
      clear hK K
      (try simp only [Act.put, List.setIfInBounds_toArray, List.set_cons_zero, List.set_cons_succ])
      refine' wpAnyH_take (i := 10) (v := _) (by (try simp only [List.getElem?_toArray, List.getElem?_cons_succ, List.getElem?_cons_zero]); rfl) (by kernel_rfl) (by kernel_rfl) (by kernel_rfl) (by exact fun _ _ _ h => h) (Or.inl ⟨(by kernel_rfl), ?hyHBo10⟩) hHeld ?restHBo10
      case hyHBo10 => (intro w hSw; (try dsimp only at hSw); go_simp; (try with_reducible rfl))
      (try simp only [Act.put, List.setIfInBounds_toArray, List.set_cons_zero, List.set_cons_succ])
      refine' wpAnyH_take (i := 11) (v := _) (by (try simp only [List.getElem?_toArray, List.getElem?_cons_succ, List.getElem?_cons_zero]); rfl) (by kernel_rfl) (by kernel_rfl) (by kernel_rfl) (by exact fun _ _ _ h => h) (Or.inl ⟨(by kernel_rfl), ?hyHBo11⟩) hHeld ?restHBo11
      case hyHBo11 => (intro w hSw; (try dsimp only at hSw); go_simp; (try with_reducible rfl))
      (try simp only [Act.put, List.setIfInBounds_toArray, List.set_cons_zero, List.set_cons_succ])
      refine' wpAnyH_take (i := 12) (v := _) (by (try simp only [List.getElem?_toArray, List.getElem?_cons_succ, List.getElem?_cons_zero]); rfl) (by kernel_rfl) (by kernel_rfl) (by kernel_rfl) (by exact fun _ _ _ h => h) (Or.inl ⟨(by kernel_rfl), ?hyHBo12⟩) hHeld ?restHBo12
      case hyHBo12 => (intro w hSw; (try dsimp only at hSw); go_simp; (try with_reducible rfl))
      (try simp only [Act.put, List.setIfInBounds_toArray, List.set_cons_zero, List.set_cons_succ])
      refine wpAnyH_take (i := 13) (v := undef) (by (try simp only [List.getElem?_toArray, List.getElem?_cons_succ, List.getElem?_cons_zero]); rfl) (by kernel_rfl) (by kernel_rfl) (by kernel_rfl) (by exact fun _ _ _ h => h) (Or.inr ⟨(by kernel_rfl), rfl⟩) hHeld ?_
      (try simp only [Act.put, List.setIfInBounds_toArray, List.set_cons_zero, List.set_cons_succ])
      refine wpAnyH_take (i := 14) (v := undef) (by (try simp only [List.getElem?_toArray, List.getElem?_cons_succ, List.getElem?_cons_zero]); rfl) (by kernel_rfl) (by kernel_rfl) (by kernel_rfl) (by exact fun _ _ _ h => h) (Or.inr ⟨(by kernel_rfl), rfl⟩) hHeld ?_
      (try simp only [Act.put, List.setIfInBounds_toArray, List.set_cons_zero, List.set_cons_succ])
      refine wpAnyH_take (i := 15) (v := undef) (by (try simp only [List.getElem?_toArray, List.getElem?_cons_succ, List.getElem?_cons_zero]); rfl) (by kernel_rfl) (by kernel_rfl) (by kernel_rfl) (by exact fun _ _ _ h => h) (Or.inr ⟨(by kernel_rfl), rfl⟩) hHeld ?_
      (try simp only [Act.put, List.setIfInBounds_toArray, List.set_cons_zero, List.set_cons_succ])
      refine wpAnyH_take (i := 16) (v := undef) (by (try simp only [List.getElem?_toArray, List.getElem?_cons_succ, List.getElem?_cons_zero]); rfl) (by kernel_rfl) (by kernel_rfl) (by kernel_rfl) (by exact fun _ _ _ h => h) (Or.inr ⟨(by kernel_rfl), rfl⟩) hHeld ?_
      (try simp only [Act.put, List.setIfInBounds_toArray, List.set_cons_zero, List.set_cons_succ])
      refine wpAnyH_take (i := 17) (v := undef) (by (try simp only [List.getElem?_toArray, List.getElem?_cons_succ, List.getElem?_cons_zero]); rfl) (by kernel_rfl) (by kernel_rfl) (by kernel_rfl) (by exact fun _ _ _ h => h) (Or.inr ⟨(by kernel_rfl), rfl⟩) hHeld ?_
      (try simp only [Act.put, List.setIfInBounds_toArray, List.set_cons_zero, List.set_cons_succ])
      refine wpAnyH_take (i := 18) (v := undef) (by (try simp only [List.getElem?_toArray, List.getElem?_cons_succ, List.getElem?_cons_zero]); rfl) (by kernel_rfl) (by kernel_rfl) (by kernel_rfl) (by exact fun _ _ _ h => h) (Or.inr ⟨(by kernel_rfl), rfl⟩) hHeld ?_
      (try simp only [Act.put, List.setIfInBounds_toArray, List.set_cons_zero, List.set_cons_succ])
      refine' wpAnyH_take (i := 19) (v := _) (by (try simp only [List.getElem?_toArray, List.getElem?_cons_succ, List.getElem?_cons_zero]); rfl) (by kernel_rfl) (by kernel_rfl) (by kernel_rfl) (by exact fun _ _ _ h => h) (Or.inl ⟨(by kernel_rfl), ?hyHBo19⟩) hHeld ?restHBo19
      case hyHBo19 => (intro w hSw; (try dsimp only at hSw); go_simp; (try with_reducible rfl))
      (try simp only [Act.put, List.setIfInBounds_toArray, List.set_cons_zero, List.set_cons_succ])
      refine wpAnyH_done (by kernel_rfl) ?_ _
      all_goals (
        go_wp2
        go_roundw
        case rel => exact ⟨k + 1, by go_num, by omega, Lib.hid (HNk.out HD.out), Lib.hid (HW.out _ HBo.out)⟩
        case measure => simp [intOf]; omega)
    by_cases k2 : obg < Y
    rotate_left
    · have d1 : decide (hbg < X) = true := decide_eq_true k1
      have d2 : decide (obg < Y) = false := decide_eq_false k2
      have HD : Hid (clash d.l ⟨hjb, hfr, hbg⟩ ⟨ojb, ofr, obg⟩ = false) := Lib.hid (by rw [HCl.out, d2, Bool.and_false, Bool.and_false])
      go_region_held3 (fun w' => w'.cell? ⟨w.heap.size, 0, none⟩ = some (.int .i64 hjb) ∧ w'.cell? ⟨w.heap.size, 1, none⟩ = some (.int .i64 hfr) ∧ w'.cell? ⟨w.heap.size, 2, none⟩ = some (.int .i64 hbg) ∧ w'.cell? ⟨g2, 0, none⟩ = some (.int .i64 ojb) ∧ w'.cell? ⟨g2, 1, none⟩ = some (.int .i64 ofr) ∧ w'.cell? ⟨g2, 2, none⟩ = some (.int .i64 obg))
        (first
          | with_reducible exact HQ.out _ HBh.out
          | with_reducible exact HQ.out _ HBo.out
          | with_reducible exact HQ.out _ HBm.out
          | with_reducible exact HQ.out _ HBd.out)
        ((first
          | (go_at_call 170; with_reducible refine (HM.out _ HBd.out).mono ?_; rintro e w2 ⟨rfl, hb⟩; have HBm : Hid (Below W1.heap.size W1 w2) := Lib.hid (HBd.out.trans (hb.mono HBd.out.size)); clear hb)
          | (go_at_call 94; with_reducible refine (HEo.out _ HBm.out).mono ?_; rintro e w3 ⟨rfl, hb⟩; have HBo : Hid (Below W1.heap.size W1 w3) := Lib.hid (HBm.out.trans (hb.mono HBm.out.size)); clear hb)
          | (go_at_call 94; with_reducible refine (HEh.out _ HBo.out).mono ?_; rintro e w4 ⟨rfl, hb⟩; have HBh : Hid (Below W1.heap.size W1 w4) := Lib.hid (HBo.out.trans (hb.mono HBo.out.size)); clear hb)
          | fail))
      all_goals (
        go_wp2
        go_roundw
        case rel => exact ⟨k + 1, by go_num, by omega, Lib.hid (HNk.out HD.out), Lib.hid (HW.out _ HBh.out)⟩
        case measure => simp [intOf]; omega)
    · have d1 : decide (hbg < X) = true := decide_eq_true k1
      have d2 : decide (obg < Y) = true := decide_eq_true k2
      have HD : Hid (clash d.l ⟨hjb, hfr, hbg⟩ ⟨ojb, ofr, obg⟩ = true) := Lib.hid (by rw [HCl.out, d1, d2]; rfl)
      go_region_held3 (fun w' => w'.cell? ⟨w.heap.size, 0, none⟩ = some (.int .i64 hjb) ∧ w'.cell? ⟨w.heap.size, 1, none⟩ = some (.int .i64 hfr) ∧ w'.cell? ⟨w.heap.size, 2, none⟩ = some (.int .i64 hbg) ∧ w'.cell? ⟨g2, 0, none⟩ = some (.int .i64 ojb) ∧ w'.cell? ⟨g2, 1, none⟩ = some (.int .i64 ofr) ∧ w'.cell? ⟨g2, 2, none⟩ = some (.int .i64 obg))
        (first
          | with_reducible exact HQ.out _ HBh.out
          | with_reducible exact HQ.out _ HBo.out
          | with_reducible exact HQ.out _ HBm.out
          | with_reducible exact HQ.out _ HBd.out)
        ((first
          | (go_at_call 170; with_reducible refine (HM.out _ HBd.out).mono ?_; rintro e w2 ⟨rfl, hb⟩; have HBm : Hid (Below W1.heap.size W1 w2) := Lib.hid (HBd.out.trans (hb.mono HBd.out.size)); clear hb)
          | (go_at_call 94; with_reducible refine (HEo.out _ HBm.out).mono ?_; rintro e w3 ⟨rfl, hb⟩; have HBo : Hid (Below W1.heap.size W1 w3) := Lib.hid (HBm.out.trans (hb.mono HBm.out.size)); clear hb)
          | (go_at_call 94; with_reducible refine (HEh.out _ HBo.out).mono ?_; rintro e w4 ⟨rfl, hb⟩; have HBh : Hid (Below W1.heap.size W1 w4) := Lib.hid (HBo.out.trans (hb.mono HBo.out.size)); clear hb)
          | fail))
      all_goals (
        obtain ⟨c0, c1, c2, c3, c4, c5⟩ := HQ.out _ HBh.out
        have hZ := HZ.out _ HBh.out
        have f0 := hZ.frozen 0
        have f1 := hZ.frozen 1
        have f2 := hZ.frozen 2
        have e0 := hZ.cell0
        have e1 := hZ.cell1
        have e2 := hZ.cell2
        clear hZ
        go_wp2
        exact bodyPost_ret (res_hpB2 rfl _ rfl ((HZ.out _ HBh.out).set3 ojb ofr obg)) rfl ⟨⟨_, _, rfl, Or.inl ⟨rfl, HMem.out, HD.out⟩⟩, ((((HB.out.trans ((HW.out _ HBh.out).mono HB.out.size)).setCell (p := ⟨w.heap.size + 1, 0, none⟩) (by simp) _).setCell (p := ⟨w.heap.size + 1, 1, none⟩) (by simp) _).setCell (p := ⟨w.heap.size + 1, 2, none⟩) (by simp) _)⟩)
end Go.Proofs.Ytiialbnfgichhaa
