/-
  l11Depth of the model, by the number of letters. Used by the claims on chapter 11.
-/
import Derived.Test.YthkafalpjokfeaaVnS
namespace Go.Proofs.Ythkafalpjokfeaa
open Go.RowKit
set_option linter.unusedVariables false

theorem mostD_any (x y : Nat) (w : World) : Calls Try.prog 114 #[.int .i64 (x : Int), .int .i64 (y : Int)] w fun e w' => e = .returned (.int .i64 ((max x y : Nat) : Int)) ∧ w' = w := by
  by_cases h : y < x
  · have HR : Hid (max x y = x) := Lib.hid (by omega)
    have h2 : (y : Int) < (x : Int) := by omega
    rw [HR.out]
    go_enter Try.func114, Try.ntmps114
    go_wp2
    go_ret
    exact ⟨rfl, rfl⟩
  · have HR : Hid (max x y = y) := Lib.hid (by omega)
    have h2 : ¬ (y : Int) < (x : Int) := by omega
    rw [HR.out]
    go_enter Try.func114, Try.ntmps114
    go_wp2
    go_ret
    exact ⟨rfl, rfl⟩
def wTo (xs : List ByteArray) (m : List Nat) (p : Nat) : Nat → Nat
  | 0 => 0
  | j + 1 => max (wTo xs m p j) (dep xs (partK xs m p j))
theorem wTo_three (xs : List ByteArray) (m : List Nat) (p : Nat) : wTo xs m p 3 = worst xs (dep xs) m p := by
  simp only [wTo, worst, Nat.zero_max]
theorem wTo_le (xs : List ByteArray) (m : List Nat) (p : Nat) (h : m.length ≤ 10) : ∀ j, wTo xs m p j ≤ 10
  | 0 => by show 0 ≤ 10; omega
  | j + 1 => by
    have h1 := wTo_le xs m p h j
    have h2 := dep_le xs (partK xs m p j)
    have h3 := partK_le xs m p j
    show max _ _ ≤ 10
    omega
def fstZ (xs : List ByteArray) (m : List Nat) : Int := if m.length = 1 then -1 else ((ask xs m).2 : Int)
/-- The search so far. -/
def MSt (s : Option (Nat × Nat)) (bi fi : Int) : Prop := (s = none ∧ bi = -1 ∧ fi = -1) ∨ ∃ b f : Nat, s = some (b, f) ∧ bi = (b : Int) ∧ fi = (f : Int) ∧ b ≤ 11 ∧ f ≤ 5

set_option maxHeartbeats 16000000 in
set_option maxRecDepth 8000 in
theorem sDepth_any (a : Option Addr) (b o c : Nat) (xs : List ByteArray) : ∀ (kk : Nat) (m : List Nat), m.length ≤ kk → Lt xs m → ∀ (a1 : Option Addr) (g1 c1 : Nat) (w : World), ListIn w a b o xs → SrcV w a1 g1 (ints m) →
    Calls Try.prog 88 #[.agg #[.slice a xs.length c], .slice a1 m.length c1] w fun e w' => e = .returned (.tuple #[.int .i64 ((dep xs m : Nat) : Int), .int .i64 (fstZ xs m)]) ∧ Below w.heap.size w w' := by
  intro kk
  induction kk with
  | zero => intro m h hm; exact absurd (List.length_eq_zero_iff.1 (by omega)) hm.ne
  | succ kk ih =>
    intro m hmk hm a1 g1 c1 w h hs
    have hml := hm.len
    have HB0 := Lib.hid (below_alloc w (.cells #[.slice a xs.length c] 29))
    have hc0 := cell_new w (.slice a xs.length c) 29
    by_cases h1 : m.length = 1
    · have HD : Hid (dep xs m = 0 ∧ fstZ xs m = -1) := Lib.hid ⟨dep_short xs (by omega), if_pos h1⟩
      have h2 : ((m.length : Int) == 1) = true := by rw [h1]; rfl
      rw [HD.out.1, HD.out.2]
      clear h hs hc0 ih
      go_enter Try.func88, Try.ntmps88
      go_wp2
      go_ret2
      exact ⟨rfl, HB0.out⟩
    · have h2 : 2 ≤ m.length := by
        have := List.length_pos_iff.2 hm.ne
        omega
      have h3 : ((m.length : Int) == 1) = false := beq_false_of_ne (by omega)
      have HAns : Hid (dep xs m = (ask xs m).1 ∧ fstZ xs m = ((ask xs m).2 : Int)) := Lib.hid ⟨dep_long xs h2, if_neg h1⟩
      have HFive := Lib.hid (mTo_five hm.nodup hm.dif h2)
      have HV := Lib.hid fun p (hp : p ≤ 5) W hb => sVain_any a b o c xs a1 g1 c1 m p W hm (h.below (w' := W) hb) (hs.below hb) hp
      have HP := Lib.hid fun p (hp : p ≤ 5) W hb => sPart_any a b o c xs a1 g1 c1 m p W (h.below (w' := W) hb) (hs.below hb) hm.lt hm.five hml hp
      have HI := Lib.hid fun p q (hv : vainB xs m p = false) (hne : partK xs m p q ≠ []) a9 g9 c9 W (hb : Below w.heap.size w W) hsr => ih (partK xs m p q) (by have := part_lt (q := q) hv; omega) (hm.part hne) a9 g9 c9 W (h.below hb) hsr
      have HW10 := Lib.hid fun p => wTo_le xs m p hml
      have HW3 := Lib.hid fun p => wTo_three xs m p
      have HMv := Lib.hid fun p (hv : vainB xs m p = true) => (show mTo xs (dep xs) m (p + 1) = mTo xs (dep xs) m p by rw [mTo, if_pos hv])
      have HMn := Lib.hid fun p (hv : vainB xs m p = false) => (show mTo xs (dep xs) m (p + 1) = (match mTo xs (dep xs) m p with
        | none => some (1 + worst xs (dep xs) m p, p)
        | some s => if 1 + worst xs (dep xs) m p < s.1 then some (1 + worst xs (dep xs) m p, p) else some s) by rw [mTo, if_neg (by rw [hv]; simp)]; cases mTo xs (dep xs) m p <;> rfl)
      rw [HAns.out.1, HAns.out.2]
      clear h hs ih hm h1
      go_enter Try.func88, Try.ntmps88
      go_wp2
      go_loopw [6, 7, 8] (fun s u v wr => ∃ (k : Nat) (bi fi : Int), v = .int .i64 (k : Int) ∧ k ≤ 5 ∧ s = .int .i64 bi ∧ u = .int .i64 fi ∧ Hid (MSt (mTo xs (dep xs) m k) bi fi) ∧ wr.cell? ⟨w.heap.size, 0, none⟩ = some (.slice a xs.length c) ∧ Hid (Below w.heap.size w wr)) (fun _ _ v _ => 5 - (intOf v).toNat)
      case atStart => exact ⟨0, -1, -1, rfl, Nat.zero_le _, rfl, rfl, Lib.hid (.inl ⟨rfl, rfl, rfl⟩), hc0, HB0⟩
      case round =>
        clear hc0
        obtain ⟨k, bi, fi, rfl, hk, rfl, rfl, HM, hc, HB⟩ := hrel
        by_cases hlt : k < 5
        · have G := Lib.hid (HV.out k hk wr HB.out)
          cases hv : vainB xs m k with
          | true =>
            have G2 := Lib.hid (val_eq (v' := .bool true) G.out (by rw [hv]))
            have HM2 : Hid (MSt (mTo xs (dep xs) m (k + 1)) bi fi) := Lib.hid (by rw [HMv.out k hv]; exact HM.out)
            clear G hv
            go_wp2_with fail
            refine (G2.out).mono ?_
            rintro e w1 ⟨rfl, hb⟩
            have HB1 := Lib.hid (HB.out.trans (hb.mono HB.out.size))
            have hc1 := cell_belowB hb hc
            clear hb hc
            go_wp2
            go_roundw
            case rel => exact ⟨k + 1, bi, fi, by go_num, by omega, rfl, rfl, HM2, hc1, HB1⟩
            case measure => simp [intOf]; omega
          | false =>
            have G2 := Lib.hid (val_eq (v' := .bool false) G.out (by rw [hv]))
            have HIk := Lib.hid fun q hne a9 g9 c9 W hb hsr => HI.out k q hv hne a9 g9 c9 W hb hsr
            have HMk := Lib.hid (HMn.out k hv)
            clear G hv
            go_wp2_with fail
            refine (G2.out).mono ?_
            rintro e w1 ⟨rfl, hb⟩
            have HB1 := Lib.hid (HB.out.trans (hb.mono HB.out.size))
            have hc1 := cell_belowB hb hc
            clear hb hc
            go_wp2_with fail
            refine (HP.out k hk w1 HB1.out).mono ?_
            rintro e w2 ⟨sv, rfl, hR, hb⟩
            have HB2 := Lib.hid (HB1.out.trans (hb.mono HB1.out.size))
            have hc2 := cell_belowB hb hc1
            obtain ⟨a0, n0, e0⟩ := hR.form 0
            obtain ⟨a2, n2, e1⟩ := hR.form 1
            obtain ⟨a3, n3, e2⟩ := hR.form 2
            have HTr : Hid (Tri (w2.alloc (.cells #[.slice a0 (partK xs m k 0).length n0, .slice a2 (partK xs m k 1).length n2, .slice a3 (partK xs m k 2).length n3] 49)) w2.heap.size sv) := Lib.hid (by
              have := tri_new w2 sv
              rw [e0, e1, e2] at this
              exact this)
            have HRw := Lib.hid (hR.below (below_alloc w2 (.cells #[.slice a0 (partK xs m k 0).length n0, .slice a2 (partK xs m k 1).length n2, .slice a3 (partK xs m k 2).length n3] 49)))
            have HB3 := Lib.hid (HB2.out.alloc HB2.out.size (.cells #[.slice a0 (partK xs m k 0).length n0, .slice a2 (partK xs m k 1).length n2, .slice a3 (partK xs m k 2).length n3] 49))
            have hc3 := keep_cell w2 (.cells #[.slice a0 (partK xs m k 0).length n0, .slice a2 (partK xs m k 1).length n2, .slice a3 (partK xs m k 2).length n3] 49) hc2
            rw [e0, e1, e2]
            clear hb hc1 hc2 hR e0 e1 e2
            go_wp2
            generalize w2.alloc (.cells #[.slice a0 (partK xs m k 0).length n0, .slice a2 (partK xs m k 1).length n2, .slice a3 (partK xs m k 2).length n3] 49) = W3 at *
            go_loopw [10, 11] (fun s v wr2 => ∃ (j z : Nat), v = .int .i64 (j : Int) ∧ j ≤ 3 ∧ s = .int .i64 (z : Int) ∧ z ≤ 10 ∧ Hid (z = wTo xs m k j) ∧ wr2.cell? ⟨w.heap.size, 0, none⟩ = some (.slice a xs.length c) ∧ Hid (Tri wr2 w2.heap.size sv) ∧ Hid (Trw wr2 w1.heap.size (fun q => partK xs m k q) sv) ∧ Hid (Below w.heap.size w wr2)) (fun _ v _ => 3 - (intOf v).toNat)
            case atStart => exact ⟨0, 0, rfl, Nat.zero_le _, rfl, by omega, Lib.hid rfl, hc3, HTr, HRw, HB3⟩
            case round =>
              clear hc3
              obtain ⟨j, z, rfl, hj, rfl, hz, HZ, hcj, HTj, HRj, HBj⟩ := hrel
              by_cases hjl : j < 3
              · obtain ⟨av, cv, hsv⟩ := HRj.out.form j
                obtain ⟨ax, gx, cx, ef, hsrc, _, _⟩ := seq_of_row (HRj.out.row j)
                have d1 := HTj.out.cell j hjl
                rw [hsv] at d1 ef
                injection ef with ef1 ef2 ef3
                subst ef1
                subst ef3
                clear ef2
                have j0 : (0 : Int) ≤ (j : Int) := by omega
                have j1 : (j : Int) < 3 := by omega
                have HWs : Hid (wTo xs m k (j + 1) = max (wTo xs m k j) (dep xs (partK xs m k j))) := Lib.hid rfl
                have HWl := Lib.hid (HW10.out k (j + 1))
                rw [← HZ.out] at HWs
                by_cases hne : partK xs m k j = []
                · have hl0 : ¬ (0 : Int) < ((partK xs m k j).length : Int) := by rw [hne]; simp
                  have hl1 : ¬ 0 < (partK xs m k j).length := by rw [hne]; simp
                  have HZ2 : Hid (z = wTo xs m k (j + 1)) := Lib.hid (by rw [HWs.out, hne, dep_short xs (by simp)]; omega)
                  clear hne hsrc hsv HWs
                  generalize (partK xs m k j).length = nl at d1 hl0 hl1
                  go_wp2
                  go_roundw
                  case rel => exact ⟨j + 1, z, by go_num, by omega, rfl, hz, HZ2, hcj, HTj, HRj, HBj⟩
                  case measure => simp [intOf]; omega
                · have hl1 : 0 < (partK xs m k j).length := List.length_pos_iff.2 hne
                  have hl0 : (0 : Int) < ((partK xs m k j).length : Int) := by omega
                  have HBd : Hid (Below w.heap.size w wr.drew) := Lib.hid HBj.out.drew
                  have K := Lib.hid (HIk.out j hne av gx cv wr.drew HBd.out hsrc)
                  have hd10 : dep xs (partK xs m k j) ≤ 10 := by
                    have h1 := HWl.out
                    rw [HWs.out] at h1
                    omega
                  have HMo := Lib.hid fun W => mostD_any z (dep xs (partK xs m k j)) W
                  generalize dep xs (partK xs m k j) = d at K HWs hd10 HMo
                  generalize fstZ xs (partK xs m k j) = fz at K
                  clear hne hsv
                  generalize hpl : (partK xs m k j).length = nl at d1 hl0 hl1 K
                  clear hsrc hpl
                  have HZ2 : Hid (max z d = wTo xs m k (j + 1)) := Lib.hid HWs.out.symm
                  have hz2 : max z d ≤ 10 := by omega
                  generalize max z d = zd at HZ2 hz2 HMo
                  go_wp2
                  go_region_with (go_at_call 88; refine (K.out).mono ?_; rintro e w5 ⟨rfl, hb5⟩; have HB5 := Lib.hid hb5)
                  all_goals (
                    have HB6 := Lib.hid (HBd.out.trans (HB5.out.mono HBd.out.size))
                    have hc6 := cell_belowB (W := wr.drew) HB5.out hcj
                    have HT6 := Lib.hid (Tri.below (w := wr.drew) (s := sv) HTj.out HB5.out)
                    have HR6 := Lib.hid (HRj.out.drew.below HB5.out)
                    clear hb5 d1 hcj
                    go_wp2_with fail
                    refine (HMo.out _).mono ?_
                    rintro e w7 ⟨rfl, hww⟩
                    obtain rfl := hww.symm
                    go_wp2
                    go_roundw
                    case rel => exact ⟨j + 1, zd, by go_num, by omega, rfl, hz2, HZ2, hc6, HT6, HR6, HB6⟩
                    case measure => simp [intOf]; omega)
              · obtain rfl : j = 3 := by omega
                have HZw : Hid (z = worst xs (dep xs) m k) := Lib.hid (by rw [HZ.out, HW3.out])
                rw [← HZw.out] at HMk
                rcases HM.out with ⟨e1, e2, e3⟩ | ⟨b1, f1, e1, e2, e3, e4, e5⟩
                · subst e2 e3
                  have HM2 : Hid (MSt (mTo xs (dep xs) m (k + 1)) ((z : Int) + 1) (k : Int)) := Lib.hid (.inr ⟨1 + z, k, by rw [HMk.out, e1], by omega, rfl, by omega, by omega⟩)
                  clear e1
                  go_wp2
                  go_roundw
                  case rel => exact ⟨k + 1, (z : Int) + 1, (k : Int), by go_num, by omega, by go_num, rfl, HM2, hcj, HBj⟩
                  case measure => simp [intOf]; omega
                · subst e2 e3
                  have q1 : ¬ (b1 : Int) < 0 := by omega
                  by_cases hzb : 1 + z < b1
                  · have q2 : (z : Int) + 1 < (b1 : Int) := by omega
                    have HM2 : Hid (MSt (mTo xs (dep xs) m (k + 1)) ((z : Int) + 1) (k : Int)) := Lib.hid (.inr ⟨1 + z, k, by rw [HMk.out, e1]; simp [hzb], by omega, rfl, by omega, by omega⟩)
                    clear e1
                    go_wp2
                    go_roundw
                    case rel => exact ⟨k + 1, (z : Int) + 1, (k : Int), by go_num, by omega, by go_num, rfl, HM2, hcj, HBj⟩
                    case measure => simp [intOf]; omega
                  · have q2 : ¬ (z : Int) + 1 < (b1 : Int) := by omega
                    have HM2 : Hid (MSt (mTo xs (dep xs) m (k + 1)) (b1 : Int) (f1 : Int)) := Lib.hid (.inr ⟨b1, f1, by rw [HMk.out, e1]; simp [hzb], rfl, rfl, e4, e5⟩)
                    clear e1
                    go_wp2
                    go_roundw
                    case rel => exact ⟨k + 1, (b1 : Int), (f1 : Int), by go_num, by omega, rfl, rfl, HM2, hcj, HBj⟩
                    case measure => simp [intOf]; omega
        · obtain rfl : k = 5 := by omega
          have HE : Hid (bi = ((ask xs m).1 : Int) ∧ fi = ((ask xs m).2 : Int)) := Lib.hid (by
            rcases HM.out with ⟨e1, _, _⟩ | ⟨b1, f1, e1, e2, e3, _, _⟩
            · rw [HFive.out] at e1; cases e1
            · rw [HFive.out] at e1
              injection e1 with e1
              rw [e1]
              exact ⟨e2, e3⟩)
          go_wp2
          go_ret2
          exact ⟨by rw [HE.out.1, HE.out.2]; rfl, HB.out⟩
end Go.Proofs.Ythkafalpjokfeaa
