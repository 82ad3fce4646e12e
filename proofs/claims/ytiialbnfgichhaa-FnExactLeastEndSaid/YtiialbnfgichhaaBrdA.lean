/-
  A board of hops in memory: firstHop, isBeyond, endOf, stationsOf, behind of the program. Used by the claims on chapter 10.
-/
import Derived.Test.YtiialbnfgichhaaIjW
import Derived.Test.YtiialbnfgichhaaTwoW
import Derived.StillTailTactics
namespace Go.Proofs.Ytiialbnfgichhaa
open Go.RowKit
set_option linter.unusedVariables false

theorem cmp_any (a b : Int) (w : World) : Calls Try.prog 113 #[.int .i64 a, .int .i64 b] w fun e w' => e = .returned (.int .i64 (cmpI a b)) ∧ w' = w := by
  rcases (show a < b ∨ a = b ∨ b < a by omega) with h | h | h
  · have HD : Hid (cmpI a b = -1) := Lib.hid (by unfold cmpI; rw [if_pos h])
    rw [HD.out]
    go_enter Try.func113, Try.ntmps113
    go_wp2
    go_ret
    exact ⟨rfl, rfl⟩
  · subst h
    have HD : Hid (cmpI a a = 0) := Lib.hid (by unfold cmpI; rw [if_neg (Int.lt_irrefl _), if_neg (Int.lt_irrefl _)])
    rw [HD.out]
    go_enter Try.func113, Try.ntmps113
    go_wp2
    go_ret
    exact ⟨rfl, rfl⟩
  · have HD : Hid (cmpI a b = 1) := Lib.hid (by unfold cmpI; rw [if_neg (by omega), if_pos h])
    have h2 : ¬ a < b := by omega
    rw [HD.out]
    go_enter Try.func113, Try.ntmps113
    go_wp2
    go_ret
    exact ⟨rfl, rfl⟩
theorem below_drewP {n : Nat} {w W : World} (q : Nat) (h : Below n w W) : Below n w (W.drewN q) := h.trans ⟨rfl, rfl, rfl, Nat.le_refl _, fun _ _ => rfl⟩
theorem HpB.set3 {t : TypeId} {W : World} {g : Nat} {h : Hp} (hh : HpB t W g h) (x y z : Int) : HpB t (((W.setCell ⟨g, 0, none⟩ (.int .i64 x)).setCell ⟨g, 1, none⟩ (.int .i64 y)).setCell ⟨g, 2, none⟩ (.int .i64 z)) g ⟨x, y, z⟩ := by
  unfold HpB at hh ⊢
  simp [World.setCell, Array.getElem?_modify, hh]
structure Bd where
  B : Nat
  aj : Option Addr
  gj : Nat
  cj : Nat
  l : List Jb
  ap : Option Addr
  gp : Nat
  cp : Nat
  ps : List Hp
structure Brd (d : Bd) (W : World) : Prop where
  jc : W.cell? ⟨d.B, 0, none⟩ = some (.slice d.aj d.l.length d.cj)
  pc : W.cell? ⟨d.B, 1, none⟩ = some (.slice d.ap d.ps.length d.cp)
  js : SrcV W d.aj d.gj (jbs d.l)
  hs : SrcV W d.ap d.gp (hps d.ps)
theorem Brd.below {d : Bd} {W W' : World} (h : Brd d W) (hb : Below W.heap.size W W') : Brd d W' :=
  ⟨cellB h.jc hb, cellB h.pc hb, h.js.below hb, h.hs.below hb⟩
theorem Brd.jc0 {d : Bd} {W : World} (h : Brd d W) {k : Nat} (hk : k < d.l.length) : W.cell? ⟨d.B, 0, none⟩ = some (.slice (some ⟨d.gj, 0, none⟩) d.l.length d.cj) := by
  rw [h.jc, h.js.1 (by rw [jbs_len]; omega)]
theorem Brd.at {d : Bd} {W : World} (h : Brd d W) {k : Nat} (hk : k < d.l.length) : W.cell? ⟨d.gj, k * 4, none⟩ = some (.int .i64 (d.l[k]).fr) ∧ W.cell? ⟨d.gj, k * 4 + 1, none⟩ = some (.int .i64 (d.l[k]).to) ∧ W.cell? ⟨d.gj, k * 4 + 2, none⟩ = some (.int .i64 (d.l[k]).sp) ∧ W.cell? ⟨d.gj, k * 4 + 3, none⟩ = some (.int .i64 (d.l[k]).st) :=
  ⟨h.js.2 _ _ (jbs_at hk).1, h.js.2 _ _ (jbs_at hk).2.1, h.js.2 _ _ (jbs_at hk).2.2.1, h.js.2 _ _ (jbs_at hk).2.2.2⟩
/-- A hop that can be handed to the board's functions. -/
structure HpV (l : List Jb) (h : Hp) : Prop where
  jb0 : 0 ≤ h.jb
  jb1 : h.jb < l.length
  fr0 : -100 ≤ h.fr
  fr1 : h.fr ≤ 100
  bg0 : 0 ≤ h.bg
  bg1 : h.bg ≤ 1000000
theorem HpV.nat {l : List Jb} {h : Hp} (hh : HpV l h) : ∃ k : Nat, h.jb = (k : Int) ∧ k < l.length := ⟨h.jb.toNat, by have := hh.jb0; omega, by have := hh.jb0; have := hh.jb1; omega⟩
theorem wrapI {x : Int} (h0 : -9000000000000000000 ≤ x) (h1 : x ≤ 9000000000000000000) : wrap64 x = x ∧ IntKind.i64.wrap x = x :=
  ⟨IntWalk.wrap64_in _ (by omega), IntWalk.i64_in _ (by omega)⟩

set_option maxHeartbeats 2000000 in
theorem endOf_any (d : Bd) (n : Int) (hv : JobsV n d.l) (h : Hp) (hh : HpV d.l h) (w : World) (hB : Brd d w) :
    Calls Try.prog 94 #[.pointer (some ⟨d.B, 0, none⟩), .agg #[.int .i64 h.jb, .int .i64 h.fr, .int .i64 h.bg]] w fun e w' => e = .returned (.int .i64 (en d.l h)) ∧ Below w.heap.size w w' := by
  obtain ⟨k, hk, hkl⟩ := hh.nat
  obtain ⟨jb, fr, bg⟩ := h
  have b0 := hh.bg0
  have b1 := hh.bg1
  dsimp only at hk b0 b1 ⊢
  subst hk
  have hT := hpB_new 89 w ⟨k, fr, bg⟩
  have HB := Lib.hid (below_alloc w (.cells #[.int .i64 (k : Int), .int .i64 fr, .int .i64 bg] 89))
  have hB2 := hB.below HB.out
  have c0 := hT.cell0
  have c2 := hT.cell2
  have c3 := hB2.jc0 hkl
  have c4 := (hB2.at hkl).2.2.1
  have hj := hv.all _ (List.getElem_mem hkl)
  have HE : Hid (en d.l ⟨k, fr, bg⟩ = bg + (d.l[k]).sp) := Lib.hid (by unfold en; rw [jAt_nat hkl])
  rw [HE.out]
  have s0 := hj.sp0
  have s1 := hj.sp1
  clear hj hv hh hB hB2 hT HE
  dsimp only at c0 c2 c3 c4
  generalize (d.l[k]).sp = sp at c4 s0 s1 ⊢
  have i0 : (0 : Int) ≤ (k : Int) := by omega
  have i1 : (k : Int) < (d.l.length : Int) := by omega
  obtain ⟨m1, m2⟩ := wrapI (x := bg + sp) (by omega) (by omega)
  clear b0 b1 s0 s1
  go_enter Try.func94, Try.ntmps94
  go_wp2
  go_quiet (fail)
  clear m1 m2
  go_wp2
  go_ret
  exact ⟨rfl, below_drewP _ HB.out⟩

set_option maxHeartbeats 2000000 in
theorem beyond_any (d : Bd) (n : Int) (hv : JobsV n d.l) (h : Hp) (hh : HpV d.l h) (w : World) (hB : Brd d w) :
    Calls Try.prog 118 #[.pointer (some ⟨d.B, 0, none⟩), .agg #[.int .i64 h.jb, .int .i64 h.fr, .int .i64 h.bg]] w fun e w' => e = .returned (.bool (h.fr == (jAt d.l h.jb).to)) ∧ Below w.heap.size w w' := by
  obtain ⟨k, hk, hkl⟩ := hh.nat
  obtain ⟨jb, fr, bg⟩ := h
  dsimp only at hk ⊢
  subst hk
  have hT := hpB_new 89 w ⟨k, fr, bg⟩
  have HB := Lib.hid (below_alloc w (.cells #[.int .i64 (k : Int), .int .i64 fr, .int .i64 bg] 89))
  have hB2 := hB.below HB.out
  have c0 := hT.cell0
  have c2 := hT.cell1
  have c3 := hB2.jc0 hkl
  have c4 := (hB2.at hkl).2.1
  rw [jAt_nat hkl]
  clear hv hh hB hB2 hT
  dsimp only at c0 c2 c3 c4
  generalize (d.l[k]).to = to at c4 ⊢
  have i0 : (0 : Int) ≤ (k : Int) := by omega
  have i1 : (k : Int) < (d.l.length : Int) := by omega
  go_enter Try.func118, Try.ntmps118
  go_wp2
  go_quiet (fail)
  go_wp2
  go_ret
  exact ⟨rfl, below_drewP _ HB.out⟩

end Go.Proofs.Ytiialbnfgichhaa
