/-
  untilFree of the board. Used by the claims on chapter 10.
-/
import Derived.Test.YtiialbnfgichhaaClW
namespace Go.Proofs.Ytiialbnfgichhaa
open Go.RowKit
set_option linter.unusedVariables false
theorem HpB.set2 {t : TypeId} {W : World} {g : Nat} {h : Hp} (hh : HpB t W g h) (z : Int) : HpB t (W.setCell ⟨g, 2, none⟩ (.int .i64 z)) g ⟨h.jb, h.fr, z⟩ := by
  unfold HpB at hh ⊢
  simp [World.setCell, Array.getElem?_modify, hh]
theorem HpB.far {t : TypeId} {W : World} {g : Nat} {h : Hp} (hh : HpB t W g h) {a : Addr} (ha : g ≠ a.block) (v : Value) : HpB t (W.setCell a v) g h := by
  have : ¬ a.block = g := fun e => ha e.symm
  unfold HpB at hh ⊢
  simp [World.setCell, Array.getElem?_modify, this, hh]
theorem hpV_moved {l : List Jb} {h : Hp} (hh : HpV l h) {b : Int} (b0 : 0 ≤ b) (b1 : b ≤ 1000000) : HpV l (moved h b) := ⟨hh.jb0, hh.jb1, hh.fr0, hh.fr1, b0, b1⟩
/-- What the loop of untilFree keeps: the hop's begin, another hop and whether it meets. -/
structure UF (d : Bd) (h : Hp) (b : Int) (r : Hp) (ok : Bool) : Prop where
  upto : Upto d.l d.ps h b
  hi : b ≤ h.bg ∨ b ≤ 100000
  yes : ok = true → r ∈ d.ps ∧ clash d.l (moved h b) r = true
  no : ok = false → ∀ o ∈ d.ps, clash d.l (moved h b) o = false
theorem UF.of {d : Bd} {h : Hp} {b : Int} {r : Hp} {ok : Bool} (hu : Upto d.l d.ps h b) (hi : b ≤ h.bg ∨ b ≤ 100000) (hc : (ok = true ∧ r ∈ d.ps ∧ clash d.l (moved h b) r = true) ∨ (ok = false ∧ ∀ o ∈ d.ps, clash d.l (moved h b) o = false)) : UF d h b r ok :=
  ⟨hu, hi, fun e => hc.elim (fun h1 => h1.2) (fun h1 => absurd (e.symm.trans h1.1) (by decide)), fun e => hc.elim (fun h1 => absurd (h1.1.symm.trans e) (by decide)) (fun h1 => h1.2)⟩
theorem UF.done {d : Bd} {h : Hp} {b : Int} {r : Hp} (hu : UF d h b r false) (h0 : 0 ≤ h.bg) : freed d.l d.ps h = moved h b := by
  unfold freed
  rw [hu.upto.done (freeAt_of (hu.no rfl)) (by have := hu.hi; have := hu.upto.le; omega)]
/-- What lies in memory in that loop. -/
structure UM (w W : World) (g5 : Nat) (h r : Hp) (b : Int) : Prop where
  low : w.heap.size + 2 ≤ g5
  hop : HpB 89 W w.heap.size (moved h b)
  res : HpB 89 W (w.heap.size + 1) ⟨0, 0, 0⟩
  oth : HpB 89 W g5 r
  below : Below w.heap.size w W
theorem UM.step {w W W' : World} {g5 : Nat} {h r : Hp} {b : Int} (hm : UM w W g5 h r b) (hb : Below W.heap.size W W') : UM w W' g5 h r b :=
  ⟨hm.low, hm.hop.below hb, hm.res.below hb, hm.oth.below hb, hm.below.trans (hb.mono hm.below.size)⟩
theorem UM.setHop {w W : World} {g5 : Nat} {h r : Hp} {b : Int} (hm : UM w W g5 h r b) (z : Int) : UM w (W.setCell ⟨w.heap.size, 2, none⟩ (.int .i64 z)) g5 h r z :=
  ⟨hm.low, hm.hop.set2 z, hm.res.far (by show w.heap.size + 1 ≠ w.heap.size; omega) _, hm.oth.far (by have := hm.low; show g5 ≠ w.heap.size; omega) _, hm.below.setCell (p := ⟨w.heap.size, 2, none⟩) (Nat.le_refl _) _⟩
theorem UM.setOth {w W : World} {g5 : Nat} {h r : Hp} {b : Int} (hm : UM w W g5 h r b) (x y z : Int) : UM w (((W.setCell ⟨g5, 0, none⟩ (.int .i64 x)).setCell ⟨g5, 1, none⟩ (.int .i64 y)).setCell ⟨g5, 2, none⟩ (.int .i64 z)) g5 h ⟨x, y, z⟩ b := by
  have hl := hm.low
  have n0 : ∀ i, w.heap.size ≠ (⟨g5, i, none⟩ : Addr).block := fun i => by show w.heap.size ≠ g5; omega
  have n1 : ∀ i, w.heap.size + 1 ≠ (⟨g5, i, none⟩ : Addr).block := fun i => by show w.heap.size + 1 ≠ g5; omega
  exact ⟨hm.low, ((hm.hop.far (n0 0) _).far (n0 1) _).far (n0 2) _, ((hm.res.far (n1 0) _).far (n1 1) _).far (n1 2) _, hm.oth.set3 x y z, ((hm.below.setCell (p := ⟨g5, 0, none⟩) (by show w.heap.size ≤ g5; omega) _).setCell (p := ⟨g5, 1, none⟩) (by show w.heap.size ≤ g5; omega) _).setCell (p := ⟨g5, 2, none⟩) (by show w.heap.size ≤ g5; omega) _⟩
theorem UM.newOth {w W : World} {g5 : Nat} {h r : Hp} {b : Int} (hm : UM w W g5 h r b) : UM w (W.alloc (.cells #[.int .i64 r.jb, .int .i64 r.fr, .int .i64 r.bg] 89)) W.heap.size h r b :=
  ⟨by have := hm.res.lt; omega, hm.hop.below (below_alloc _ _), hm.res.below (below_alloc _ _), hpB_new _ _ _, hm.below.alloc hm.below.size _⟩

set_option maxHeartbeats 8000000 in
set_option maxRecDepth 20000 in
theorem untilFree_any (d : Bd) (n : Int) (hv : JobsV n d.l) (hps : ∀ o ∈ d.ps, HpV d.l o) (hE : ∀ o ∈ d.ps, en d.l o ≤ 100000) (hlen : d.ps.length ≤ 1048576) (h : Hp) (hh : HpV d.l h) (w : World) (hB : Brd d w) :
    Calls Try.prog 121 #[.pointer (some ⟨d.B, 0, none⟩), .agg #[.int .i64 h.jb, .int .i64 h.fr, .int .i64 h.bg]] w fun e w' => e = .returned (.agg #[.int .i64 (freed d.l d.ps h).jb, .int .i64 (freed d.l d.ps h).fr, .int .i64 (freed d.l d.ps h).bg]) ∧ Below w.heap.size w w' := by
  have HB := Lib.hid ((below_alloc w (.cells #[.int .i64 h.jb, .int .i64 h.fr, .int .i64 h.bg] 89)).alloc (by simp) (.cells #[.int .i64 0, .int .i64 0, .int .i64 0] 89))
  have HT1 := Lib.hid ((hpB_new 89 w h).below (below_alloc _ (.cells #[.int .i64 0, .int .i64 0, .int .i64 0] 89)))
  have HT2 := Lib.hid (hpB_new 89 (w.alloc (.cells #[.int .i64 h.jb, .int .i64 h.fr, .int .i64 h.bg] 89)) ⟨0, 0, 0⟩)
  have es : (w.alloc (.cells #[.int .i64 h.jb, .int .i64 h.fr, .int .i64 h.bg] 89)).heap.size = w.heap.size + 1 := by simp
  rw [es] at HT2
  clear es
  have HC := Lib.hid fun b (b0 : (0 : Int) ≤ b) (b1 : b ≤ 1000000) W hb => clashOf_any d n hv hps hlen (moved h b) (hpV_moved hh b0 b1) W (hB.below (W' := W) hb)
  have HE := Lib.hid fun r (hr : r ∈ d.ps) W hb => endOf_any d n hv r (hps r hr) W (hB.below (W' := W) hb)
  have HEn := Lib.hid hE
  have h0 := hh.bg0
  have h1 := hh.bg1
  have c0 := HT1.out.cell0
  have c1 := HT1.out.cell1
  have c2 := HT1.out.cell2
  clear hv hh hB hps hE hlen
  have HD := Lib.hid fun b r (hu : UF d h b r false) => hu.done h0
  go_enter Try.func121, Try.ntmps121
  go_wp2_with fail
  refine (HC.out h.bg h0 h1 _ HB.out).mono ?_
  rintro e w1 ⟨⟨r, ok, rfl, hr⟩, hb⟩
  have HM1 := Lib.hid (show UM w (w1.alloc (.cells #[.int .i64 r.jb, .int .i64 r.fr, .int .i64 r.bg] 89)) w1.heap.size h r h.bg from ⟨by have := hb.size; simp at this; omega, (HT1.out.below hb).below (below_alloc _ _), (HT2.out.below hb).below (below_alloc _ _), hpB_new _ _ _, (HB.out.trans (hb.mono HB.out.size)).alloc (Nat.le_trans HB.out.size hb.size) _⟩)
  have HU1 := Lib.hid (UF.of (Upto.start d.l d.ps h) (Or.inl (Int.le_refl _)) hr)
  clear hb hr c0 c1 c2 HT1 HT2 HB
  go_wp2
  generalize w1.heap.size = g5 at HM1 ⊢
  generalize w1.alloc (.cells #[.int .i64 r.jb, .int .i64 r.fr, .int .i64 r.bg] 89) = W1 at HM1 ⊢
  go_loopw [5, 6] (fun p v wr => ∃ (g5 : Nat) (b : Int) (r : Hp) (ok : Bool), p = .pointer (some ⟨g5, 0, none⟩) ∧ v = .bool ok ∧ 0 ≤ b ∧ b ≤ 1000000 ∧ Hid (UF d h b r ok) ∧ Hid (UM w wr g5 h r b)) (fun _ _ wr => match wr.cell? ⟨w.heap.size, 2, none⟩ with | some (.int _ b) => (2000000 - b).toNat | _ => 0)
  case atStart => exact ⟨g5, h.bg, r, ok, rfl, rfl, h0, h1, HU1, HM1⟩
  case round =>
    obtain ⟨g5, b, r, ok, rfl, rfl, b0, b1, HU, HM⟩ := hrel
    cases ok with
    | false =>
      have c0 := HM.out.hop.cell0
      have c1 := HM.out.hop.cell1
      have c2 := HM.out.hop.cell2
      have f0 := HM.out.res.frozen 0
      have f1 := HM.out.res.frozen 1
      have f2 := HM.out.res.frozen 2
      have e0 := HM.out.res.cell0
      have e1 := HM.out.res.cell1
      have e2 := HM.out.res.cell2
      have HR := Lib.hid (HD.out b r HU.out)
      go_wp2
      exact bodyPost_ret (res_hpB rfl _ rfl (HM.out.res.set3 _ _ _)) rfl ⟨by rw [HR.out], ((HM.out.below.setCell (p := ⟨w.heap.size + 1, 0, none⟩) (by simp) _).setCell (p := ⟨w.heap.size + 1, 1, none⟩) (by simp) _).setCell (p := ⟨w.heap.size + 1, 2, none⟩) (by simp) _⟩
    | true =>
      have c0 := HM.out.oth.cell0
      have c1 := HM.out.oth.cell1
      have c2 := HM.out.oth.cell2
      obtain ⟨hu2, hlt⟩ := HU.out.upto.step (HU.out.yes rfl).1 (HU.out.yes rfl).2
      have HU2 := Lib.hid hu2
      have hle := HEn.out r (HU.out.yes rfl).1
      clear hu2
      go_wp2_with fail
      refine (HE.out r (HU.out.yes rfl).1 _ HM.out.below).mono ?_
      rintro e w2 ⟨rfl, hb⟩
      have HM2 := Lib.hid (HM.out.step hb)
      have HX : Hid (wr.cell? ⟨w.heap.size, 2, none⟩ = some (.int .i64 b)) := Lib.hid HM.out.hop.cell2
      clear hb c0 c1 c2
      generalize hX : en d.l r = X at *
      clear hX
      have HM3 := Lib.hid (HM2.out.setHop X)
      have HM4 := Lib.hid HM3.out.newOth
      have es : (w2.setCell ⟨w.heap.size, 2, none⟩ (.int .i64 X)).heap.size = w2.heap.size := by simp
      rw [es] at HM4
      clear es
      have k0 := HM2.out.hop.cell2
      have k1 := HM2.out.hop.frozen 2
      have c0 := HM3.out.oth.cell0
      have c1 := HM3.out.oth.cell1
      have c2 := HM3.out.oth.cell2
      have d0 := HM4.out.hop.cell0
      have d1 := HM4.out.hop.cell1
      have d2 := HM4.out.hop.cell2
      go_wp2_with fail
      clear k0 k1 c0 c1 c2 d0 d1 d2
      refine (HC.out X (by omega) (by omega) _ HM4.out.below).mono ?_
      rintro e w5 ⟨⟨r2, ok2, rfl, hr⟩, hb⟩
      have HM5 := Lib.hid (HM4.out.step hb)
      have HU5 := Lib.hid (UF.of HU2.out (Or.inr hle) hr)
      have HM6 := Lib.hid (HM5.out.setOth r2.jb r2.fr r2.bg)
      have HY := Lib.hid HM6.out.hop.cell2
      clear hb hr HM2 HM3 HM4 HM HU HU2
      have f0 := HM5.out.oth.frozen 0
      have f1 := HM5.out.oth.frozen 1
      have f2 := HM5.out.oth.frozen 2
      have e0 := HM5.out.oth.cell0
      have e1 := HM5.out.oth.cell1
      have e2 := HM5.out.oth.cell2
      go_wp2
      go_roundw
      case rel => exact ⟨_, X, r2, ok2, rfl, rfl, by omega, by omega, HU5, HM6⟩
      case measure =>
        rw [HX.out, HY.out]
        show (2000000 - X).toNat < (2000000 - b).toNat
        omega
end Go.Proofs.Ytiialbnfgichhaa
