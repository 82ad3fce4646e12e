/-
  l11Part of the model. Used by the claims on chapter 11.
-/
import Derived.Test.YthkafalpjokfeaaPtW
import Derived.Test.YthkafalpjokfeaaAnS
import Derived.Deep.RegionHeldLaw
import Derived.Deep.RegionLaw
import Derived.Deep.RegionWith
namespace Go.Proofs.Ythkafalpjokfeaa
open Go.RowKit
set_option linter.unusedVariables false

theorem Trw.setB {w : World} {base g : Nat} {F : Nat → List Nat} {sv : Nat → Value} (h : Trw w base F sv) (hg : ∀ d, (sv d).ownBlock ≠ some g) (o : Nat) (v : Value) : Trw (w.setCell ⟨g, o, none⟩ v) base F sv :=
  ⟨fun d => (h.row d).kept (grown_set o v) (.inr (hg d)), h.apart⟩
theorem Trw.drew {w : World} {base : Nat} {F : Nat → List Nat} {sv : Nat → Value} (h : Trw w base F sv) : Trw w.drew base F sv := ⟨fun d => (h.row d).drew, h.apart⟩
def sv3 (n d : Nat) : Value := if d = 0 then .slice (some ⟨n, 0, none⟩) 0 0 else if d = 1 then .slice (some ⟨n + 1, 0, none⟩) 0 0 else if d = 2 then .slice (some ⟨n + 2, 0, none⟩) 0 0 else nilT
theorem sv3_own (n d : Nat) : (sv3 n d).ownBlock = if d < 3 then some (n + d) else none := by
  match d with
  | 0 => rfl
  | 1 => rfl
  | 2 => rfl
  | d + 3 =>
    unfold sv3
    rw [if_neg (by omega), if_neg (by omega), if_neg (by omega), if_neg (by omega)]; rfl
theorem trw_three (w : World) : Trw (((w.alloc (.cells #[] 3)).alloc (.cells #[] 3)).alloc (.cells #[] 3)) w.heap.size (fun _ => []) (sv3 w.heap.size) := by
  have r0 := row_below (row_below (row_emptyB w w.heap.size (Nat.le_refl _)) (below_alloc _ (.cells #[] 3))) (below_alloc _ (.cells #[] 3))
  have r1 := row_below (row_emptyB (w.alloc (.cells #[] 3)) w.heap.size (by simp)) (below_alloc _ (.cells #[] 3))
  have r2 := row_emptyB ((w.alloc (.cells #[] 3)).alloc (.cells #[] 3)) w.heap.size (by simp; omega)
  refine ⟨fun d => ?_, fun d d' hne => ?_⟩
  · match d with
    | 0 => exact r0
    | 1 => simpa [sv3] using r1
    | 2 => simpa [sv3] using r2
    | d + 3 =>
      have : sv3 w.heap.size (d + 3) = nilT := by
        unfold sv3
        rw [if_neg (by omega), if_neg (by omega), if_neg (by omega)]
      rw [this]
      exact World.ownsRow_nil _ _ _ _
  · rw [sv3_own, sv3_own]
    by_cases h1 : d < 3
    · rw [if_pos h1]
      right
      by_cases h2 : d' < 3
      · rw [if_pos h2]; intro e; injection e; omega
      · rw [if_neg h2]; intro e; cases e
    · rw [if_neg h1]; exact .inl rfl

set_option maxHeartbeats 16000000 in
set_option maxRecDepth 8000 in
theorem sPart_any (a : Option Addr) (b o c : Nat) (xs : List ByteArray) (a1 : Option Addr) (g1 c1 : Nat) (m : List Nat) (p : Nat) (w : World) (h : ListIn w a b o xs) (hs : SrcV w a1 g1 (ints m)) (hm : ∀ i ∈ m, i < xs.length) (h5 : ∀ i ∈ m, (atL xs i).size ≤ 5) (hml : m.length ≤ 10) (hp : p ≤ 5) :
    Calls Try.prog 85 #[.agg #[.slice a xs.length c], .slice a1 m.length c1, .int .i64 p] w (PartsOut (fun q => partK xs m p q) w) := by
  have hxl := h.len
  have HV := Lib.hid fun W hb => hs.below (w' := W) hb
  have HM := Lib.hid hm
  have H5 := Lib.hid h5
  obtain ⟨i0, hi, hz0, hz1, hz2⟩ := infoL_parts infoIL
  have HA := Lib.hid fun i W hb hi hx => sAns_any a b o c xs i p W (h.below (w' := W) hb) hi hx hp
  obtain ⟨W1, hW1⟩ : ∃ W1, W1 = (w.alloc (.cells #[.slice a xs.length c] 29)).alloc (.cells #[nilT, nilT, nilT] 49) := ⟨_, rfl⟩
  have hs1 : W1.heap.size = w.heap.size + 1 + 1 := by rw [hW1]; simp
  have HB1 : Hid (Below w.heap.size w W1) := Lib.hid (by rw [hW1]; exact (below_alloc w _).alloc (by simp) _)
  have hc1 : W1.cell? ⟨w.heap.size, 0, none⟩ = some (.slice a xs.length c) := by rw [hW1]; exact keep_cell _ _ (cell_new w _ _)
  have HU1 : Hid (Tri W1 (w.heap.size + 1) (fun _ => nilT)) := Lib.hid (by
    have := tri_new (w.alloc (.cells #[.slice a xs.length c] 29)) (fun _ => nilT)
    rw [show (w.alloc (.cells #[.slice a xs.length c] 29)).heap.size = w.heap.size + 1 by simp] at this
    rw [hW1]; exact this)
  have HR0 := Lib.hid (trw_three W1)
  have hb3 : Below W1.heap.size W1 (((W1.alloc (.cells #[] 3)).alloc (.cells #[] 3)).alloc (.cells #[] 3)) := ((below_alloc W1 _).alloc (by simp) _).alloc (by simp; omega) _
  have hs4 : (((W1.alloc (.cells #[] 3)).alloc (.cells #[] 3)).alloc (.cells #[] 3)).heap.size = w.heap.size + 1 + 1 + 1 + 1 + 1 := by simp; omega
  have HT0 := Lib.hid (tri_new (((W1.alloc (.cells #[] 3)).alloc (.cells #[] 3)).alloc (.cells #[] 3)) (sv3 W1.heap.size))
  rw [hs4] at HT0
  have hb4 := hb3.alloc (by omega) (.cells #[sv3 W1.heap.size 0, sv3 W1.heap.size 1, sv3 W1.heap.size 2] 49)
  have HR1 := Lib.hid (HR0.out.below (below_alloc _ (.cells #[sv3 W1.heap.size 0, sv3 W1.heap.size 1, sv3 W1.heap.size 2] 49)))
  have HB4 := Lib.hid (HB1.out.trans (hb4.mono HB1.out.size))
  have hc4 := cell_belowB hb4 hc1
  have HU4 := Lib.hid (HU1.out.below hb4)
  have HO0 : Hid (∀ d, (sv3 W1.heap.size d).ownBlock ≠ some (w.heap.size + 1 + 1 + 1 + 1 + 1)) := Lib.hid fun d e => by
    rw [sv3_own] at e
    by_cases h3 : d < 3
    · rw [if_pos h3] at e; injection e; omega
    · rw [if_neg h3] at e; cases e
  obtain ⟨W0, hW0⟩ : ∃ W0, W0 = (((W1.alloc (.cells #[] 3)).alloc (.cells #[] 3)).alloc (.cells #[] 3)).alloc (.cells #[sv3 W1.heap.size 0, sv3 W1.heap.size 1, sv3 W1.heap.size 2] 49) := ⟨_, rfl⟩
  rw [← hW0] at HR1 HT0 HB4 HU4 hc4
  have hz0' : w.heap.size + 6 ≤ W0.heap.size := by rw [hW0]; simp; omega
  have HZ0 := Lib.hid hz0'
  rw [hs1] at HR1 HT0 HO0 hW0
  have hWe : (((((w.alloc (.cells #[.slice a xs.length c] 29)).alloc (.cells #[.slice none 0 0, .slice none 0 0, .slice none 0 0] 49)).alloc (.cells #[] 3)).alloc (.cells #[] 3)).alloc (.cells #[] 3)).alloc (.cells #[.slice (some ⟨w.heap.size + 1 + 1, 0, none⟩) 0 0, .slice (some ⟨w.heap.size + 1 + 1 + 1, 0, none⟩) 0 0, .slice (some ⟨w.heap.size + 1 + 1 + 1 + 1, 0, none⟩) 0 0] 49) = W0 := by rw [hW0, hW1]; rfl
  clear hW0 hW1 hs1 hs4 hb3 hb4 hc1 HB1 HU1 HR0 hz0' h hs hm h5
  go_enter Try.func85, Try.ntmps85
  go_wp2
  (try rw [hWe])
  clear hWe
  go_loopw [8] (fun v wr => ∃ (k : Nat) (sv : Nat → Value), v = .int .i64 k ∧ k ≤ m.length ∧ wr.cell? ⟨w.heap.size, 0, none⟩ = some (.slice a xs.length c) ∧ Hid (Tri wr (w.heap.size + 1 + 1 + 1 + 1 + 1) sv) ∧ Hid (Tri wr (w.heap.size + 1) (fun _ => nilT)) ∧ Hid (Trw wr (w.heap.size + 1 + 1) (fun q => partK xs (m.take k) p q) sv) ∧ Hid (∀ d, (sv d).ownBlock ≠ some (w.heap.size + 1 + 1 + 1 + 1 + 1)) ∧ Hid (Below w.heap.size w wr) ∧ Hid (w.heap.size + 6 ≤ wr.heap.size)) (fun v _ => m.length - (intOf v).toNat)
  case atStart => exact ⟨0, sv3 (w.heap.size + 1 + 1), rfl, Nat.zero_le _, hc4, HT0, HU4, HR1, HO0, HB4, HZ0⟩
  case round =>
    clear hc4
    obtain ⟨k, sv, rfl, hk, hc, HT, HU, HRw, HO, HB, HZ⟩ := hrel
    by_cases hlt : k < m.length
    · obtain rfl := (HV.out wr HB.out).1 (by rw [ints_len]; omega)
      have HD1 := Lib.hid fun W hb => (HV.out W hb).2 k _ (ints_at hlt)
      have d1 := HD1.out wr HB.out
      have hil := HM.out _ (List.getElem_mem hlt)
      have h5i := H5.out _ (List.getElem_mem hlt)
      have HTk := Lib.hid (take_snocB m k hlt)
      generalize m[k] = i at d1 HD1 hil h5i HTk
      have HP := Lib.hid (HA.out i wr.drew HB.out.drew hil h5i)
      have hq3 := ansB_lt (atL xs i) p
      have HSn : Hid (∀ q, partK xs (m.take (k + 1)) p q = partK xs (m.take k) p q ++ (if ansB (atL xs i) p = q then [i] else [])) := Lib.hid fun q => by rw [HTk.out, partK_snoc]
      generalize ansB (atL xs i) p = q at HP hq3 HSn
      obtain ⟨av, cv, hsv⟩ := HRw.out.form q
      have hcq := HT.out.cell q hq3
      rw [hsv] at hcq
      have hrow := HRw.out.row q
      rw [hsv] at hrow
      have HSV := Lib.hid hsv
      have hpl : (partK xs (m.take k) p q).length ≤ 10 := by
        have h1 := partK_le xs (m.take k) p q
        have h2 := List.length_take_le k m
        omega
      have HSq := Lib.hid (HSn.out q)
      rw [if_pos rfl] at HSq
      have HSo : Hid (∀ d, d ≠ q → partK xs (m.take (k + 1)) p d = partK xs (m.take k) p d) := Lib.hid fun d hd => by rw [HSn.out d, if_neg (Ne.symm hd), List.append_nil]
      obtain ⟨ys, hys⟩ : ∃ ys, partK xs (m.take k) p q = ys := ⟨_, rfl⟩
      rw [hys] at hcq hrow hpl HSq HSV
      have HYS := Lib.hid hys
      have HOw := Lib.hid hrow
      clear hys hsv hrow HSn
      have q0 : (0 : Int) ≤ (q : Int) := by omega
      have q1 : (q : Int) < 3 := by omega
      have k0 : (0 : Int) ≤ (k : Int) := by omega
      have k1 : (k : Int) < (m.length : Int) := by omega
      have a1 : ys.length + 1 ≤ maxLen := by unfold maxLen; omega
      have a2 : (ys.length + 1) * 8 ≤ 140737488355328 := by omega
      have hszr := HZ.out
      have HLt : Hid (∀ r, (Value.slice av ys.length cv).ownBlock = some r → w.heap.size + 1 + 1 ≤ r ∧ r ≠ w.heap.size + 1 + 1 + 1 + 1 + 1) := Lib.hid fun r e => ⟨(ownBlock_geB HOw.out e).1, fun e2 => HO.out q (by rw [HSV.out, e, e2])⟩
      go_wp2
      go_region_with (go_at_call 82; refine (HP.out).mono ?_; rintro e w5 ⟨rfl, hb5⟩; have HB5 := Lib.hid hb5)
      all_goals (
        have hB5 : Hid (Below w.heap.size w w5) := Lib.hid (HB.out.drew.trans (HB5.out.mono HB.out.size))
        have HT5 := Lib.hid (Tri.below (w := wr.drew) HT.out HB5.out)
        have HUd : Tri wr.drew (w.heap.size + 1) (fun _ => nilT) := HU.out
        have HU5 := Lib.hid (HUd.below HB5.out)
        clear HUd
        have HR5 := Lib.hid (HRw.out.drew.below HB5.out)
        have hc5 : w5.cell? ⟨w.heap.size, 0, none⟩ = some (.slice a xs.length c) := cell_belowB (W := wr.drew) HB5.out hc
        have hsz5 : w.heap.size + 6 ≤ w5.heap.size := Nat.le_trans hszr HB5.out.size
        have HO5 := Lib.hid (HR5.out.row q)
        rw [HSV.out, HYS.out] at HO5
        have x1 := HD1.out _ hB5.out
        have x2 := keep_cell w5 (.cells #[.int .i64 (i : Int)] 3) x1
        have x3 := HT5.out.cell q hq3
        rw [HSV.out] at x3
        have x4 := keep_cell w5 (.cells #[.int .i64 (i : Int)] 3) x3
        clear hcq d1 hb5 hc
        go_wp2
        go_region_law
          (refine step_append_lies _ (by rfl) _ _ _ (by rfl) (w.heap.size + 1 + 1) 3 i0 _ 1 8 Try.underlying25 hi hz0 hz1 hz2 rfl (by decide) (.slice av ys.length cv) ys.length (ints ys) (by rfl) ((HO5.out.alloc _).drew)
            ⟨w5.heap.size, 0, none⟩ 1 1 [.int .i64 (i : Int)] (by rfl) (by rfl) (World.news_of_block (cs := #[.int .i64 (i : Int)]) (t := 3) (fr := (0, 0)) (heap_alloc_new w5 _)) (by simp [Value.oneCell'])
            (by decide) a1 a2 (by have := hsz5; simp; omega) (w5.heap.size + 1) (by simp) ?_; intro gg capg w4 hown4 hgrow4 hat4 hglt4; have HT4 : Hid (Tri w4 (w.heap.size + 1 + 1 + 1 + 1 + 1) sv) := Lib.hid ((hgrow4.block (w.heap.size + 1 + 1 + 1 + 1 + 1) (by simp; omega) (fun e => (HLt.out _ e.symm).2 rfl)).trans (HT5.out.below (show Below w5.heap.size w5 (w5.alloc (.cells #[.int .i64 (i : Int)] 3)).drew from (below_alloc w5 _).drew))); have f4 := HT4.out.frozen q; have k4 := HT4.out.cell q hq3)
        all_goals (
          have HU9 : Hid (Below w5.heap.size w5 (w5.alloc (.cells #[.int .i64 (i : Int)] 3)).drew) := Lib.hid (below_alloc w5 _).drew
          have HW4 : Hid (Trw w4 (w.heap.size + 1 + 1) (fun q => partK xs (m.take (k + 1)) p q) (fun d => if d = q then .slice (some ⟨gg, 0, none⟩) (ys.length + 1) capg else sv d)) := Lib.hid (HR5.out.step q i HU9.out _ (by rw [HSV.out]; exact hgrow4) (by rw [HYS.out, ints_snoc]; simpa using hown4) (by
            rw [HSV.out]
            rcases hat4 with h9 | h9
            · exact .inl h9
            · exact .inr (by rw [h9]; rfl)) (by rw [HSq.out, HYS.out]) HSo.out)
          have HG4 : Hid (Tri w4 (w.heap.size + 1) (fun _ => nilT)) := Lib.hid ((hgrow4.block (w.heap.size + 1) (by simp; omega) (fun e => by have := (HLt.out _ e.symm).1; omega)).trans (HU5.out.below HU9.out))
          have HB4 : Hid (Below w.heap.size w w4) := Lib.hid ((hB5.out.trans (HU9.out.mono hB5.out.size)).grown hgrow4 (by have := hB5.out.size; simp; omega) (fun q e => by have := (HLt.out q e).1; omega))
          have hc4 : w4.cell? ⟨w.heap.size, 0, none⟩ = some (.slice a xs.length c) := (World.cell?_of_block (a := ⟨w.heap.size, 0, none⟩) (hgrow4.block w.heap.size (by simp; omega) (fun e => by have := (HLt.out _ e.symm).1; omega))).trans (keep_cell _ _ hc5)
          have HZ4 : Hid (w.heap.size + 6 ≤ w4.heap.size) := Lib.hid (Nat.le_trans hsz5 (Nat.le_trans HU9.out.size hgrow4.size))
          have HO4 : Hid (∀ d, (if d = q then Value.slice (some ⟨gg, 0, none⟩) (ys.length + 1) capg else sv d).ownBlock ≠ some (w.heap.size + 1 + 1 + 1 + 1 + 1)) := Lib.hid fun d => by
            by_cases e1 : d = q
            · rw [if_pos e1]
              rcases hat4 with h9 | h9
              · rw [show (Value.slice (some ⟨gg, 0, none⟩) (ys.length + 1) capg).ownBlock = some gg from rfl, ← h9]
                intro e2
                exact (HLt.out _ e2).2 rfl
              · intro e2
                have e3 : gg = w.heap.size + 1 + 1 + 1 + 1 + 1 := by injection e2
                omega
            · rw [if_neg e1]; exact HO.out d
          clear hown4 hgrow4 hat4 hglt4 hc5 x1 x2 x3 x4 f4 k4
          go_wp2
          go_roundw
          case rel => exact ⟨k + 1, _, by go_num, by omega, (World.cell?_setCell_other _ _ _ _ (by intro e; injection e; omega)).trans hc4, Lib.hid (HT4.out.set q hq3 _), Lib.hid (HG4.out.other (by show w.heap.size + 1 + 1 + 1 + 1 + 1 ≠ w.heap.size + 1; omega) _), Lib.hid (HW4.out.setB HO4.out _ _), HO4, Lib.hid (HB4.out.setCell (p := ⟨w.heap.size + 1 + 1 + 1 + 1 + 1, q, none⟩) (by simp; omega) _), Lib.hid (by have := HZ4.out; simpa [World.setCell] using this)⟩
          case measure => simp [intOf]; omega))
    · obtain rfl : k = m.length := by omega
      rw [List.take_length] at HRw
      have l0 : (loadVar 49 ⟨w.heap.size + 1 + 1 + 1 + 1 + 1, 0, none⟩).run Try.prog wr = _ := load_tri HT.out
      have t0 : wr.cell? ⟨w.heap.size + 1 + 1 + 1 + 1 + 1, 0, none⟩ = _ := HT.out.cell 0 (by omega)
      have t1 : wr.cell? ⟨w.heap.size + 1 + 1 + 1 + 1 + 1, 1, none⟩ = _ := HT.out.cell 1 (by omega)
      have t2 : wr.cell? ⟨w.heap.size + 1 + 1 + 1 + 1 + 1, 2, none⟩ = _ := HT.out.cell 2 (by omega)
      obtain ⟨b0, n0, h0⟩ := HRw.out.form 0
      obtain ⟨b1, n1, h1⟩ := HRw.out.form 1
      obtain ⟨b2, n2, h2⟩ := HRw.out.form 2
      rw [h0, h1, h2] at l0
      rw [h0] at t0
      rw [h1] at t1
      rw [h2] at t2
      have HV3 := Lib.hid (And.intro h0 (And.intro h1 h2))
      have f0 := HU.out.frozen 0
      have f1 := HU.out.frozen 1
      have f2 := HU.out.frozen 2
      clear h0 h1 h2
      have k0 := HU.out.cell 0 (by omega)
      have k1 := HU.out.cell 1 (by omega)
      have k2 := HU.out.cell 2 (by omega)
      go_wp2
      refine bodyPost_ret (res_tri rfl _ rfl ((((HU.out.set 0 (by omega) _).set 1 (by omega) _).set 2 (by omega) _))) rfl ?_
      exact ⟨sv, by rw [HV3.out.1, HV3.out.2.1, HV3.out.2.2]; rfl, ((((HRw.out.set (g := w.heap.size + 1) (by omega) 0 _).set (by omega) 1 _).set (by omega) 2 _).mono (by omega)), ((HB.out.setCell (p := ⟨w.heap.size + 1, 0, none⟩) (by simp) _).setCell (p := ⟨w.heap.size + 1, 1, none⟩) (by simp) _).setCell (p := ⟨w.heap.size + 1, 2, none⟩) (by simp) _⟩
end Go.Proofs.Ythkafalpjokfeaa
