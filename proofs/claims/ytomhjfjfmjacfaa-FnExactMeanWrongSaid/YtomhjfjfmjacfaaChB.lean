/-
  ChanceComes, the program's and the model's: both answer alike. Used by the claims on chapter 7.
-/
import Derived.Test.YtomhjfjfmjacfaaChC
import Derived.Test.YtomhjfjfmjacfaaPtS
namespace Go.Proofs.Ytomhjfjfmjacfaa
open Go.RowKit
set_option linter.unusedVariables false

/-- What a walk carries of a noise and of its result's cells. -/
structure CarN (w : World) (gN gR : Nat) (N d : Int) (W : World) : Prop where
  noi : Pr2 25 W gN N d
  res : Two W gR 0 0
  below : Below w.heap.size w W
theorem CarN.step {w : World} {gN gR : Nat} {N d : Int} {W W' : World} (h : CarN w gN gR N d W) (hb : Below W.heap.size W W') : CarN w gN gR N d W' :=
  ⟨h.noi.below hb, h.res.below hb, h.below.trans (hb.mono h.below.size)⟩
theorem CarN.drew {w : World} {gN gR : Nat} {N d : Int} {W : World} (h : CarN w gN gR N d W) : CarN w gN gR N d W.drew := ⟨h.noi, h.res, h.below.drew⟩
theorem carN_new (w : World) (N d : Int) : CarN w w.heap.size (w.heap.size + 1) N d ((w.alloc (.cells #[.int .i64 N, .int .i64 d] 25)).alloc (.cells #[.int .i64 0, .int .i64 0] 28)) := by
  have hR := two_new (w.alloc (.cells #[.int .i64 N, .int .i64 d] 25)) 0 0
  have e0 : (w.alloc (.cells #[.int .i64 N, .int .i64 d] 25)).heap.size = w.heap.size + 1 := by simp
  rw [e0] at hR
  exact ⟨(pr2_new _ w N d).below (below_alloc _ _), hR, (below_alloc w _).alloc (by simp) _⟩

def ccR (N d : Int) (x y : ByteArray) : (Nat × Nat) × Bool :=
  if goodN N d = true ∧ marksL (bl x) = true ∧ marksL (bl y) = true then (frN N.toNat (d - N).toNat (bl x) (bl y), true) else ((0, 0), false)

set_option maxHeartbeats 1000000 in
set_option maxRecDepth 20000 in
theorem comes_any (N d : Int) (x y : ByteArray) (w : World) (hx : x.size ≤ maxLen) (hy : y.size ≤ maxLen) :
    Calls Try.prog 19 #[.agg #[.int .i64 N, .int .i64 d], .string x, .string y] w fun e w' => e = .returned (.tuple #[.agg #[.int .i64 ((ccR N d x y).1.1 : Int), .int .i64 ((ccR N d x y).1.2 : Int)], .bool (ccR N d x y).2]) ∧ Below w.heap.size w w' := by
  have F := Lib.hid fun W => isNoise_any N d W
  have FX := Lib.hid fun W => areMarks_any x W hx
  have FY := Lib.hid fun W => areMarks_any y W hy
  have HC := Lib.hid (carN_new w N d)
  have l1 := load_noi HC.out.noi
  clear hx hy
  cases hg : goodN N d with
  | false =>
    have HR : Hid (ccR N d x y = ((0, 0), false)) := Lib.hid (if_neg (fun h => by rw [hg] at h; exact absurd h.1 (by decide)))
    rw [hg] at F
    rw [HR.out]
    clear hg
    go_enter Try.func19, Try.ntmps19
    go_wp2_with fail
    refine (F.out _).mono ?_
    rintro e w1 ⟨rfl, hb⟩
    have HC1 := Lib.hid (HC.out.step hb)
    clear hb l1
    have f0 := HC1.out.res.frozen 0
    have f1 := HC1.out.res.frozen 1
    have k0 := HC1.out.res.cell0
    have k1 := HC1.out.res.cell1
    go_wp2
    refine bodyPost_ret (res_two rfl _ rfl ((HC1.out.res.set0 _).set1 _)) rfl ?_
    exact ⟨rfl, (HC1.out.below.setCell (p := ⟨w.heap.size + 1, 0, none⟩) (by simp) _).setCell (p := ⟨w.heap.size + 1, 1, none⟩) (by simp) _⟩
  | true =>
    rw [hg] at F
    cases hmx : marksL (bl x) with
    | false =>
      have HR : Hid (ccR N d x y = ((0, 0), false)) := Lib.hid (if_neg (fun h => by rw [hmx] at h; exact absurd h.2.1 (by decide)))
      rw [hmx] at FX
      rw [HR.out]
      clear hg hmx
      go_enter Try.func19, Try.ntmps19
      go_wp2_with fail
      refine (F.out _).mono ?_
      rintro e w1 ⟨rfl, hb⟩
      have HC1 := Lib.hid (HC.out.step hb)
      clear hb l1
      go_wp2_with fail
      refine (FX.out _).mono ?_
      rintro e w2 ⟨rfl, hb⟩
      have HC2 := Lib.hid (HC1.out.step hb)
      clear hb
      have f0 := HC2.out.res.frozen 0
      have f1 := HC2.out.res.frozen 1
      have k0 := HC2.out.res.cell0
      have k1 := HC2.out.res.cell1
      go_wp2
      refine bodyPost_ret (res_two rfl _ rfl ((HC2.out.res.set0 _).set1 _)) rfl ?_
      exact ⟨rfl, (HC2.out.below.setCell (p := ⟨w.heap.size + 1, 0, none⟩) (by simp) _).setCell (p := ⟨w.heap.size + 1, 1, none⟩) (by simp) _⟩
    | true =>
      rw [hmx] at FX
      cases hmy : marksL (bl y) with
      | false =>
        have HR : Hid (ccR N d x y = ((0, 0), false)) := Lib.hid (if_neg (fun h => by rw [hmy] at h; exact absurd h.2.2 (by decide)))
        rw [hmy] at FY
        rw [HR.out]
        clear hg hmx hmy
        go_enter Try.func19, Try.ntmps19
        go_wp2_with fail
        refine (F.out _).mono ?_
        rintro e w1 ⟨rfl, hb⟩
        have HC1 := Lib.hid (HC.out.step hb)
        clear hb l1
        go_wp2_with fail
        refine (FX.out _).mono ?_
        rintro e w2 ⟨rfl, hb⟩
        have HC2 := Lib.hid (HC1.out.step hb)
        clear hb
        go_wp2_with fail
        refine (FY.out _).mono ?_
        rintro e w3 ⟨rfl, hb⟩
        have HC3 := Lib.hid (HC2.out.step hb)
        clear hb
        have f0 := HC3.out.res.frozen 0
        have f1 := HC3.out.res.frozen 1
        have k0 := HC3.out.res.cell0
        have k1 := HC3.out.res.cell1
        go_wp2
        refine bodyPost_ret (res_two rfl _ rfl ((HC3.out.res.set0 _).set1 _)) rfl ?_
        exact ⟨rfl, (HC3.out.below.setCell (p := ⟨w.heap.size + 1, 0, none⟩) (by simp) _).setCell (p := ⟨w.heap.size + 1, 1, none⟩) (by simp) _⟩
      | true =>
        rw [hmy] at FY
        have HR : Hid (ccR N d x y = (frN N.toNat (d - N).toNat (bl x) (bl y), true)) := Lib.hid (if_pos ⟨hg, hmx, hmy⟩)
        rw [HR.out]
        obtain ⟨p, q, rfl, hd, h1, h2⟩ := goodN_iff.1 hg
        obtain ⟨e, he⟩ : ∃ e, e = p + q := ⟨_, rfl⟩
        rw [← he] at hd h1 h2
        subst hd
        have e1 : (p : Int).toNat = p := by omega
        have e2 : ((e : Int) - (p : Int)).toNat = q := by omega
        rw [e1, e2]
        have G := Lib.hid fun W => chanceComes_any p q e x y W he h1 h2 hmx hmy
        clear hg hmx hmy e1 e2 h1 h2 he HR
        generalize (frN p q (bl x) (bl y)).1 = r1 at G ⊢
        generalize (frN p q (bl x) (bl y)).2 = r2 at G ⊢
        go_enter Try.func19, Try.ntmps19
        go_wp2_with fail
        refine (F.out _).mono ?_
        rintro e w1 ⟨rfl, hb⟩
        have HC1 := Lib.hid (HC.out.step hb)
        clear hb l1
        go_wp2_with fail
        refine (FX.out _).mono ?_
        rintro e w2 ⟨rfl, hb⟩
        have HC2 := Lib.hid (HC1.out.step hb)
        clear hb
        go_wp2_with fail
        refine (FY.out _).mono ?_
        rintro e w3 ⟨rfl, hb⟩
        have HC3 := Lib.hid (HC2.out.step hb)
        have k0 := HC3.out.noi.cell0
        have k1 := HC3.out.noi.cell1
        clear hb
        go_wp2_with fail
        refine (G.out _).mono ?_
        rintro e w4 ⟨rfl, hb⟩
        have HC4 := Lib.hid (HC3.out.step hb)
        clear hb k0 k1
        have f0 := HC4.out.res.frozen 0
        have f1 := HC4.out.res.frozen 1
        have k0 := HC4.out.res.cell0
        have k1 := HC4.out.res.cell1
        go_wp2
        refine bodyPost_ret (res_two rfl _ rfl ((HC4.out.res.set0 _).set1 _)) rfl ?_
        exact ⟨rfl, (HC4.out.below.setCell (p := ⟨w.heap.size + 1, 0, none⟩) (by simp) _).setCell (p := ⟨w.heap.size + 1, 1, none⟩) (by simp) _⟩

theorem smarksB_any (s : ByteArray) (w : World) (hs : s.size ≤ maxLen) :
    Calls Try.prog 57 #[.string s, .int .i64 1, .int .i64 5] w fun e w' => e = .returned (.bool (marksL (bl s))) ∧ Below w.heap.size w w' :=
  (smarks_any s w hs).mono fun e w' ⟨h1, q, h2⟩ => ⟨h1, by rw [h2]; exact ⟨rfl, rfl, rfl, Nat.le_refl _, fun _ _ => rfl⟩⟩
set_option maxHeartbeats 1000000 in
set_option maxRecDepth 20000 in
theorem sComes_any (N d : Int) (x y : ByteArray) (w : World) (hx : x.size ≤ maxLen) (hy : y.size ≤ maxLen) :
    Calls Try.prog 18 #[.agg #[.int .i64 N, .int .i64 d], .string x, .string y] w fun e w' => e = .returned (.tuple #[.agg #[.int .i64 ((ccR N d x y).1.1 : Int), .int .i64 ((ccR N d x y).1.2 : Int)], .bool (ccR N d x y).2]) ∧ Below w.heap.size w w' := by
  have F := Lib.hid fun W => sGood_any N d W
  have FX := Lib.hid fun W => smarksB_any x W hx
  have FY := Lib.hid fun W => smarksB_any y W hy
  have HC := Lib.hid (carN_new w N d)
  have l1 := load_noi HC.out.noi
  clear hx hy
  cases hg : goodN N d with
  | false =>
    have HR : Hid (ccR N d x y = ((0, 0), false)) := Lib.hid (if_neg (fun h => by rw [hg] at h; exact absurd h.1 (by decide)))
    rw [hg] at F
    rw [HR.out]
    clear hg
    go_enter Try.func18, Try.ntmps18
    go_wp2_with fail
    refine (F.out _).mono ?_
    rintro e w1 ⟨rfl, hb⟩
    have HC1 := Lib.hid (HC.out.step hb)
    clear hb l1
    have f0 := HC1.out.res.frozen 0
    have f1 := HC1.out.res.frozen 1
    have k0 := HC1.out.res.cell0
    have k1 := HC1.out.res.cell1
    go_wp2
    refine bodyPost_ret (res_two rfl _ rfl ((HC1.out.res.set0 _).set1 _)) rfl ?_
    exact ⟨rfl, (HC1.out.below.setCell (p := ⟨w.heap.size + 1, 0, none⟩) (by simp) _).setCell (p := ⟨w.heap.size + 1, 1, none⟩) (by simp) _⟩
  | true =>
    rw [hg] at F
    cases hmx : marksL (bl x) with
    | false =>
      have HR : Hid (ccR N d x y = ((0, 0), false)) := Lib.hid (if_neg (fun h => by rw [hmx] at h; exact absurd h.2.1 (by decide)))
      rw [hmx] at FX
      rw [HR.out]
      clear hg hmx
      go_enter Try.func18, Try.ntmps18
      go_wp2_with fail
      refine (F.out _).mono ?_
      rintro e w1 ⟨rfl, hb⟩
      have HC1 := Lib.hid (HC.out.step hb)
      clear hb l1
      go_wp2_with fail
      refine (FX.out _).mono ?_
      rintro e w2 ⟨rfl, hb⟩
      have HC2 := Lib.hid (HC1.out.step hb)
      clear hb
      have f0 := HC2.out.res.frozen 0
      have f1 := HC2.out.res.frozen 1
      have k0 := HC2.out.res.cell0
      have k1 := HC2.out.res.cell1
      go_wp2
      refine bodyPost_ret (res_two rfl _ rfl ((HC2.out.res.set0 _).set1 _)) rfl ?_
      exact ⟨rfl, (HC2.out.below.setCell (p := ⟨w.heap.size + 1, 0, none⟩) (by simp) _).setCell (p := ⟨w.heap.size + 1, 1, none⟩) (by simp) _⟩
    | true =>
      rw [hmx] at FX
      cases hmy : marksL (bl y) with
      | false =>
        have HR : Hid (ccR N d x y = ((0, 0), false)) := Lib.hid (if_neg (fun h => by rw [hmy] at h; exact absurd h.2.2 (by decide)))
        rw [hmy] at FY
        rw [HR.out]
        clear hg hmx hmy
        go_enter Try.func18, Try.ntmps18
        go_wp2_with fail
        refine (F.out _).mono ?_
        rintro e w1 ⟨rfl, hb⟩
        have HC1 := Lib.hid (HC.out.step hb)
        clear hb l1
        go_wp2_with fail
        refine (FX.out _).mono ?_
        rintro e w2 ⟨rfl, hb⟩
        have HC2 := Lib.hid (HC1.out.step hb)
        clear hb
        go_wp2_with fail
        refine (FY.out _).mono ?_
        rintro e w3 ⟨rfl, hb⟩
        have HC3 := Lib.hid (HC2.out.step hb)
        clear hb
        have f0 := HC3.out.res.frozen 0
        have f1 := HC3.out.res.frozen 1
        have k0 := HC3.out.res.cell0
        have k1 := HC3.out.res.cell1
        go_wp2
        refine bodyPost_ret (res_two rfl _ rfl ((HC3.out.res.set0 _).set1 _)) rfl ?_
        exact ⟨rfl, (HC3.out.below.setCell (p := ⟨w.heap.size + 1, 0, none⟩) (by simp) _).setCell (p := ⟨w.heap.size + 1, 1, none⟩) (by simp) _⟩
      | true =>
        rw [hmy] at FY
        have HR : Hid (ccR N d x y = (frN N.toNat (d - N).toNat (bl x) (bl y), true)) := Lib.hid (if_pos ⟨hg, hmx, hmy⟩)
        rw [HR.out]
        obtain ⟨p, q, rfl, hd, h1, h2⟩ := goodN_iff.1 hg
        obtain ⟨e, he⟩ : ∃ e, e = p + q := ⟨_, rfl⟩
        rw [← he] at hd h1 h2
        subst hd
        have e1 : (p : Int).toNat = p := by omega
        have e2 : ((e : Int) - (p : Int)).toNat = q := by omega
        rw [e1, e2]
        have hx5 : x.size ≤ 5 := by have := marks_len hmx; rw [bl_len] at this; exact this.2
        have hy5 : y.size ≤ 5 := by have := marks_len hmy; rw [bl_len] at this; exact this.2
        have G1 := Lib.hid fun W => sParts_any p q e x y W he h1 h2 hx5 hy5
        have G2 := Lib.hid fun W => sAll_any p q e W he h2
        have b1 := ptN_le (p := p) (q := q) (x := bl x) (y := bl y) (by rw [bl_len]; exact hx5)
        have b2 := allN_le (p := p) (q := q) (by omega) (by omega)
        have G3 := Lib.hid fun W => sCut_any (ptN p q (bl x) (bl y)) (allN p q) W (by omega) (allN_pos (by omega)) (by omega)
        have G3 : Hid (∀ W, Calls Try.prog 58 #[.int .i64 ((ptN p q (bl x) (bl y) : Nat) : Int), .int .i64 ((allN p q : Nat) : Int)] W fun e w' => e = .returned (.agg #[.int .i64 (((frN p q (bl x) (bl y)).1 : Nat) : Int), .int .i64 (((frN p q (bl x) (bl y)).2 : Nat) : Int)]) ∧ Below W.heap.size W w') := G3
        clear b1 b2 hx5 hy5
        generalize ptN p q (bl x) (bl y) = n1 at G1 G3
        generalize allN p q = n2 at G2 G3
        clear hg hmx hmy e1 e2 h1 h2 he HR
        generalize (frN p q (bl x) (bl y)).1 = r1 at G3 ⊢
        generalize (frN p q (bl x) (bl y)).2 = r2 at G3 ⊢
        go_enter Try.func18, Try.ntmps18
        go_wp2_with fail
        refine (F.out _).mono ?_
        rintro e w1 ⟨rfl, hb⟩
        have HC1 := Lib.hid (HC.out.step hb)
        clear hb l1
        go_wp2_with fail
        refine (FX.out _).mono ?_
        rintro e w2 ⟨rfl, hb⟩
        have HC2 := Lib.hid (HC1.out.step hb)
        clear hb
        go_wp2_with fail
        refine (FY.out _).mono ?_
        rintro e w3 ⟨rfl, hb⟩
        have HC3 := Lib.hid (HC2.out.step hb)
        have k0 := HC3.out.noi.cell0
        have k1 := HC3.out.noi.cell1
        clear hb
        have HC3d := Lib.hid HC3.out.drew
        go_wp2
        go_region_with (first
          | (go_at_call 59; refine (G1.out _).mono ?_; rintro e w4 ⟨rfl, hb4⟩; have HC4 := Lib.hid (HC3d.out.step hb4); have k2 := HC4.out.noi.cell0; have k3 := HC4.out.noi.cell1; clear hb4)
          | (go_at_call 60; refine (G2.out _).mono ?_; rintro e w5 ⟨rfl, hb5⟩; have HC5 := Lib.hid (HC4.out.step hb5); clear hb5)
          | (go_at_call 58; refine (G3.out _).mono ?_; rintro e w6 ⟨rfl, hb6⟩; have HC6 := Lib.hid (HC5.out.step hb6); clear hb6; have f0 := HC6.out.res.frozen 0; have f1 := HC6.out.res.frozen 1; have m0 := HC6.out.res.cell0; have m1 := HC6.out.res.cell1))
        all_goals (
          go_wp2
          refine bodyPost_ret (res_two rfl _ rfl ((HC6.out.res.set0 _).set1 _)) rfl ?_
          exact ⟨rfl, (HC6.out.below.setCell (p := ⟨w.heap.size + 1, 0, none⟩) (by simp) _).setCell (p := ⟨w.heap.size + 1, 1, none⟩) (by simp) _⟩)


theorem chanceComes_both (N d : Int) (x y : ByteArray) (hx : x.size ≤ 1048576) (hy : y.size ≤ 1048576) : ∃ (R0 R2 : Int) (R1 : Bool),
    Hid (∀ W, Calls Try.prog 18 #[.agg #[.int .i64 N, .int .i64 d], .string x, .string y] W fun e W' => e = .returned (.tuple #[.agg #[.int .i64 R0, .int .i64 R2], .bool R1]) ∧ Below W.heap.size W W') ∧
    Hid (∀ W, Calls Try.prog 19 #[.agg #[.int .i64 N, .int .i64 d], .string x, .string y] W fun e W' => e = .returned (.tuple #[.agg #[.int .i64 R0, .int .i64 R2], .bool R1]) ∧ Below W.heap.size W W') :=
  ⟨_, _, _, fun W => sComes_any N d x y W (by unfold maxLen; omega) (by unfold maxLen; omega), fun W => comes_any N d x y W (by unfold maxLen; omega) (by unfold maxLen; omega)⟩
end Go.Proofs.Ytomhjfjfmjacfaa
