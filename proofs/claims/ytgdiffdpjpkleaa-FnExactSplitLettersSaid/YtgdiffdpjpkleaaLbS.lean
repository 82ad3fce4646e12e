/-
  l6Letter, l6By, LettersBy of the model, and both together. Used by the claims on chapter 6.
-/
import Derived.Test.YtgdiffdpjpkleaaLbW
import Derived.Deep.RegionHeld3
namespace Go.Proofs.Ytgdiffdpjpkleaa
open Go.RowKit Go.Maps
set_option linter.unusedVariables false

theorem val_same {F : Nat} {args : Array Value} {b v : Bool} {w : World} (h : Calls Try.prog F args w fun e w' => e = .returned (.bool b) ∧ w' = w) (e : b = v) : Calls Try.prog F args w fun e w' => e = .returned (.bool v) ∧ w' = w := by rw [← e]; exact h
theorem sLetter_any (a : Option Addr) (b o c : Nat) (xs : List ByteArray) (i : Int) (w : World) (h : ListIn w a b o xs) :
    Calls Try.prog 87 #[.agg #[.slice a xs.length c], .int .i64 i] w fun e w' => e = .returned (.bool (marksR xs i).2) ∧ Below w.heap.size w w' := by
  have hl := h.len
  have F := Lib.hid fun W hb => stable_any a b o c xs W (h.below (w' := W) hb)
  clear h
  by_cases ht : tableB xs = true
  · have F2 := Lib.hid fun W hb => val_eq (v' := .bool true) (F.out W hb) (by rw [ht])
    have HR : Hid ((decide (0 ≤ i) && decide (i ≤ (xs.length : Int) - 1)) = (marksR xs i).2) := Lib.hid (by
      unfold marksR
      by_cases hc : 0 ≤ i ∧ i < xs.length
      · rw [if_pos ⟨ht, hc⟩, decide_eq_true hc.1, decide_eq_true (show i ≤ (xs.length : Int) - 1 by omega)]; rfl
      · rw [if_neg (fun e => hc e.2), Bool.eq_false_iff, ne_eq, Bool.and_eq_true, decide_eq_true_eq, decide_eq_true_eq]; omega)
    have HIn := Lib.hid fun w => in_any i 0 ((xs.length : Int) - 1) w
    have hn := table_le ht
    have h1 := hn.1
    clear ht F hn
    go_enter Try.func87, Try.ntmps87
    go_wp2_with fail
    refine (F2.out _ (below_alloc _ _)).mono ?_
    rintro e w1 ⟨rfl, hb⟩
    have hc1 : w1.cell? ⟨w.heap.size, 0, none⟩ = some (.slice a xs.length c) := (hb.cell (p := ⟨w.heap.size, 0, none⟩) (by simp)).trans (cell_new _ _ _)
    have HB := Lib.hid ((below_alloc w (.cells #[.slice a xs.length c] 32)).trans (hb.mono (by simp)))
    clear hb
    go_wp2_with fail
    refine (HIn.out _).mono ?_
    rintro e w2 ⟨rfl, hww⟩
    obtain rfl := hww.symm
    rw [HR.out]
    go_wp2
    go_ret
    exact ⟨rfl, HB.out⟩
  · have F2 := Lib.hid fun W hb => val_eq (v' := .bool false) (F.out W hb) (by simp [ht])
    have HR : Hid ((marksR xs i).2 = false) := Lib.hid (by unfold marksR; rw [if_neg (fun e => ht e.1)])
    rw [HR.out]
    clear ht F
    go_enter Try.func87, Try.ntmps87
    go_wp2_with fail
    refine (F2.out _ (below_alloc _ _)).mono ?_
    rintro e w1 ⟨rfl, hb⟩
    have HB := Lib.hid ((below_alloc w (.cells #[.slice a xs.length c] 32)).trans (hb.mono (by simp)))
    clear hb
    go_wp2
    go_ret
    exact ⟨rfl, HB.out⟩

def Kd (x : ByteArray) (kind want : Int) : Prop := (kind = 0 ∧ want = (x.size : Int)) ∨ (kind = 1 ∧ want = (x.size : Int) - 1) ∨ (kind = 2 ∧ want = (x.size : Int) + 1)
theorem kd_of {x : ByteArray} {kind : Int} (h0 : 0 ≤ kind) (h2 : kind ≤ 2) : Kd x kind (wantZ x kind) := by
  unfold Kd wantZ
  rcases (show kind = 0 ∨ kind = 1 ∨ kind = 2 by omega) with h | h | h <;> subst h <;> simp
set_option maxHeartbeats 2000000 in
theorem sBy_any (x y : ByteArray) (kind want : Int) (w : World) (hx : x.size ≤ 5) (hx1 : 1 ≤ x.size) (hy : y.size ≤ 5) (hk : Kd x kind want) :
    Calls Try.prog 89 #[.string x, .string y, .int .i64 kind] w fun e w' => e = .returned (.bool (decide ((y.size : Int) = want) && decide (dist (bl x) (bl y) = 1))) ∧ Below w.heap.size w w' := by
  have HDs := Lib.hid fun W => sDistance_any x y W hx hy
  have HD1 : Hid ((((dist (bl x) (bl y) : Nat) : Int) == 1) = decide (dist (bl x) (bl y) = 1)) := Lib.hid (by
    by_cases h : dist (bl x) (bl y) = 1
    · rw [h]; rfl
    · rw [decide_eq_false h]; exact beq_false_of_ne (by omega))
  generalize dist (bl x) (bl y) = d at HDs HD1 ⊢
  rcases hk with ⟨rfl, rfl⟩ | ⟨rfl, rfl⟩ | ⟨rfl, rfl⟩
  · by_cases hs : (y.size : Int) = (x.size : Int)
    · have t1 : ((y.size : Int) == (x.size : Int)) = true := by rw [hs]; simp
      have HV : Hid (decide ((y.size : Int) = (x.size : Int)) = true) := Lib.hid (decide_eq_true hs)
      clear hs
      go_enter Try.func89, Try.ntmps89
      go_wp2_with fail
      refine (HDs.out _).mono ?_
      rintro e w1 ⟨rfl, hb⟩
      have HB := Lib.hid ((below_alloc _ _).trans (hb.mono (by simp)))
      clear hb
      go_wp2
      go_ret
      exact ⟨by rw [HV.out, ← HD1.out]; rfl, HB.out⟩
    · have t1 : ((y.size : Int) == (x.size : Int)) = false := beq_false_of_ne hs
      have HV : Hid (decide ((y.size : Int) = (x.size : Int)) = false) := Lib.hid (decide_eq_false hs)
      clear hs
      go_enter Try.func89, Try.ntmps89
      go_wp2
      go_ret
      exact ⟨by rw [HV.out]; rfl, below_alloc _ _⟩
  · by_cases hs : (y.size : Int) = (x.size : Int) - 1
    · have t1 : ((y.size : Int) == (x.size : Int) + -1) = true := beq_iff_eq.2 (by omega)
      have HV : Hid (decide ((y.size : Int) = (x.size : Int) - 1) = true) := Lib.hid (decide_eq_true hs)
      clear hs
      go_enter Try.func89, Try.ntmps89
      go_wp2_with fail
      refine (HDs.out _).mono ?_
      rintro e w1 ⟨rfl, hb⟩
      have HB := Lib.hid ((below_alloc _ _).trans (hb.mono (by simp)))
      clear hb
      go_wp2
      go_ret
      exact ⟨by rw [HV.out, ← HD1.out]; rfl, HB.out⟩
    · have t1 : ((y.size : Int) == (x.size : Int) + -1) = false := beq_false_of_ne (by omega)
      have HV : Hid (decide ((y.size : Int) = (x.size : Int) - 1) = false) := Lib.hid (decide_eq_false hs)
      clear hs
      go_enter Try.func89, Try.ntmps89
      go_wp2
      go_ret
      exact ⟨by rw [HV.out]; rfl, below_alloc _ _⟩
  · by_cases hs : (y.size : Int) = (x.size : Int) + 1
    · have t1 : ((y.size : Int) == (x.size : Int) + 1) = true := by rw [hs]; simp
      have HV : Hid (decide ((y.size : Int) = (x.size : Int) + 1) = true) := Lib.hid (decide_eq_true hs)
      clear hs
      go_enter Try.func89, Try.ntmps89
      go_wp2_with fail
      refine (HDs.out _).mono ?_
      rintro e w1 ⟨rfl, hb⟩
      have HB := Lib.hid ((below_alloc _ _).trans (hb.mono (by simp)))
      clear hb
      go_wp2
      go_ret
      exact ⟨by rw [HV.out, ← HD1.out]; rfl, HB.out⟩
    · have t1 : ((y.size : Int) == (x.size : Int) + 1) = false := beq_false_of_ne hs
      have HV : Hid (decide ((y.size : Int) = (x.size : Int) + 1) = false) := Lib.hid (decide_eq_false hs)
      clear hs
      go_enter Try.func89, Try.ntmps89
      go_wp2
      go_ret
      exact ⟨by rw [HV.out]; rfl, below_alloc _ _⟩
theorem byK_step (xs : List ByteArray) (want : Int) (f : Nat → Nat) (k : Nat) :
    byK xs want (byOn f 1 (List.range (k + 1))) = byK xs want (byOn f 1 (List.range k)) ++ (if (decide (((atB xs k).size : Int) = want) && decide (f k = 1)) = true then [k] else []) := by
  rw [List.range_succ, byOn_snoc]
  by_cases h : f k = 1
  · rw [if_pos h, byK_snoc]
    simp [h]
  · rw [if_neg h]
    simp [h]

set_option maxHeartbeats 8000000 in
set_option maxRecDepth 8000 in
theorem sLettersBy_any (a : Option Addr) (b o c : Nat) (xs : List ByteArray) (i kind : Int) (w : World) (h : ListIn w a b o xs) :
    Calls Try.prog 29 #[.agg #[.slice a xs.length c], .int .i64 i, .int .i64 kind] w (SeqOut (ints (lbL xs i kind)) (lbL xs i kind).length (lbOk xs i kind) w) := by
  have hl := h.len
  have F := Lib.hid fun W hb => sLetter_any a b o c xs i W (h.below (w' := W) hb)
  have HS := Lib.hid h
  have HIn := Lib.hid fun w => in_any kind 0 2 w
  have e0 : (w.alloc (.cells #[.slice a xs.length c] 32)).heap.size = w.heap.size + 1 := by simp
  have HM0 : Hid (((w.alloc (.cells #[.slice a xs.length c] 32)).alloc (Obj.cells #[] 3)).ownsRow (w.heap.size + 1) 3 1 (.slice (some ⟨w.heap.size + 1, 0, none⟩) 0 0) 0 (ints [])) := Lib.hid (by
    have := row_empty (w.alloc (.cells #[.slice a xs.length c] 32)) (w.heap.size + 1) (by simp)
    rw [e0] at this
    exact this)
  have HB0 := Lib.hid ((below_alloc w (.cells #[.slice a xs.length c] 32)).alloc (by simp) (Obj.cells #[] 3))
  have hc0 := keep_cell (w.alloc (.cells #[.slice a xs.length c] 32)) (Obj.cells #[] 3) (cell_new w (.slice a xs.length c) 32)
  clear h e0
  cases hm : (marksR xs i).2 with
  | false =>
    have HR : Hid (lbOk xs i kind = false) := Lib.hid (by unfold lbOk; rw [hm]; rfl)
    have HL : Hid (lbL xs i kind = []) := Lib.hid (if_neg (by rw [HR.out]; simp))
    rw [HR.out, HL.out]
    rw [hm] at F
    clear hm
    go_enter Try.func29, Try.ntmps29
    go_wp2_with fail
    refine (F.out _ HB0.out).mono ?_
    rintro e w1 ⟨rfl, hb⟩
    have HB := Lib.hid (HB0.out.trans (hb.mono (by simp; omega)))
    clear hb hc0
    go_wp2
    go_ret2
    exact seqOut_nothing HB.out _ _
  | true =>
    obtain ⟨ht, hi0, hin, hx⟩ := marksR_yes hm
    rw [hm] at F
    by_cases hk : 0 ≤ kind ∧ kind ≤ 2
    · have HR : Hid (lbOk xs i kind = true) := Lib.hid (by unfold lbOk; rw [hm, decide_eq_true hk.1, decide_eq_true hk.2]; rfl)
      have HI2 := Lib.hid fun w => val_same (HIn.out w) (show (decide (0 ≤ kind) && decide (kind ≤ 2)) = true by rw [decide_eq_true hk.1, decide_eq_true hk.2]; rfl)
      obtain ⟨n, rfl⟩ : ∃ n : Nat, i = (n : Int) := ⟨i.toNat, by omega⟩
      have hnl : n < xs.length := by omega
      have HX := Lib.hid (atB_eq (List.getElem?_eq_getElem hnl))
      have hxm := marksL_size (((tableB_iff xs).1 ht).2.1 _ (List.getElem_mem hnl))
      have HCx := Lib.hid fun W (hb : Below w.heap.size w W) => (HS.out.below hb).src.2 n _ (List.getElem?_eq_getElem hnl)
      have HL : Hid (lbL xs n kind = byK xs (wantZ xs[n] kind) (byOn (farB xs xs[n]) 1 (List.range xs.length))) := Lib.hid (by
        unfold lbL
        rw [if_pos HR.out, hx, Int.toNat_natCast, HX.out])
      have HKd := Lib.hid (kd_of (x := xs[n]) hk.1 hk.2)
      rw [HR.out, HL.out]
      clear HL hx hm
      generalize xs[n] = x at HX hxm HCx HKd ⊢
      generalize wantZ x kind = want at HKd ⊢
      have H5 := Lib.hid (marks5 ht)
      have hn10 := (table_le ht).2
      have hx1 := hxm.1
      have hx5 := hxm.2
      obtain ⟨i0, hi, hz0, hz1, hz2⟩ := info_parts infoI
      obtain rfl := HS.out.src.1 (by omega)
      have n1 : (0 : Int) ≤ (n : Int) := by omega
      have n2 : (n : Int) < (xs.length : Int) := by omega
      clear ht hi0 hin hk hxm HIn
      go_enter Try.func29, Try.ntmps29
      go_wp2_with fail
      refine (F.out _ HB0.out).mono ?_
      rintro e w1 ⟨rfl, hb⟩
      have hc1 := cell_below hb hc0
      have HM1 := Lib.hid (row_below HM0.out hb)
      have HB1 := Lib.hid (HB0.out.trans (hb.mono (by simp; omega)))
      have HZ1 : Hid (w.heap.size + 1 ≤ w1.heap.size) := Lib.hid (Nat.le_trans (by simp) hb.size)
      clear hb hc0
      go_wp2_with fail
      refine (HI2.out _).mono ?_
      rintro e w2 ⟨rfl, hww⟩
      obtain rfl := hww.symm
      go_wp2
      go_loopw [8, 9] (fun pv v wr => ∃ k : Nat, v = .int .i64 k ∧ k ≤ xs.length ∧ wr.ownsRow (w.heap.size + 1) 3 1 pv (byK xs want (byOn (farB xs x) 1 (List.range k))).length (ints (byK xs want (byOn (farB xs x) 1 (List.range k)))) ∧ wr.cell? ⟨w.heap.size, 0, none⟩ = some (.slice (some ⟨b, o, none⟩) xs.length c) ∧ Hid (Below w.heap.size w wr) ∧ Hid (w.heap.size + 1 ≤ wr.heap.size)) (fun _ v _ => xs.length - (intOf v).toNat)
      case atStart => exact ⟨0, rfl, Nat.zero_le _, HM1.out, hc1, HB1, HZ1⟩
      case round =>
        clear hc1
        obtain ⟨k, rfl, hk, hown, hc1, HB, HZ⟩ := hrel
        obtain ⟨av, capv, rfl⟩ := row_form hown
        by_cases hlt : k < xs.length
        · have hcX := HCx.out _ HB.out
          have hcK := (HS.out.below HB.out).src.2 k _ (List.getElem?_eq_getElem hlt)
          have HK := Lib.hid (atB_eq (List.getElem?_eq_getElem hlt))
          have hy5 := H5.out _ (List.getElem_mem hlt)
          generalize xs[k] = y at hcK HK hy5
          have HSt := Lib.hid (byK_step xs want (farB xs x) k)
          have HFd : Hid (farB xs x k = dist (bl x) (bl y)) := Lib.hid (by unfold farB; rw [HK.out])
          rw [HK.out, HFd.out] at HSt
          have HDs := Lib.hid fun W => sBy_any x y kind want W hx5 hx1 hy5 HKd.out
          have hpl : (byK xs want (byOn (farB xs x) 1 (List.range k))).length ≤ 10 := by
            have h1 := byK_le xs want (byOn (farB xs x) 1 (List.range k))
            have h2 := byOn_le (farB xs x) 1 (List.range k)
            rw [List.length_range] at h2
            omega
          have HOw := Lib.hid hown
          generalize byK xs want (byOn (farB xs x) 1 (List.range k)) = ps at HOw HSt hpl
          generalize (decide ((y.size : Int) = want) && decide (dist (bl x) (bl y) = 1)) = q at HDs HSt
          clear hown HFd
          have k1 : (0 : Int) ≤ (k : Int) := by omega
          have k2 : (k : Int) < (xs.length : Int) := by omega
          have hszr := HZ.out
          cases q with
          | true =>
            have HE : Hid (byK xs want (byOn (farB xs x) 1 (List.range (k + 1))) = ps ++ [k]) := Lib.hid (by rw [HSt.out]; rfl)
            clear HSt
            go_wp2
            go_region_held3 (fun w' => w'.cell? ⟨w.heap.size, 0, none⟩ = some (.slice (some ⟨b, o, none⟩) xs.length c) ∧ w'.cell? ⟨b, o + n, none⟩ = some (.string x) ∧ w'.cell? ⟨b, o + k, none⟩ = some (.string y))
              (first
                | go_keep
                | (go_split_ands
                   refine ⟨cell_below hb2 (by assumption), cell_below hb2 (by assumption), cell_below hb2 (by assumption)⟩))
              ((go_at_call 89; refine (HDs.out _).mono ?_; rintro e w2 ⟨rfl, hb2⟩))
            have hc2 : w2.cell? ⟨w.heap.size, 0, none⟩ = some (.slice (some ⟨b, o, none⟩) xs.length c) := (hb2.cell (p := ⟨w.heap.size, 0, none⟩) (by show w.heap.size < wr.heap.size; omega)).trans hc1
            have HB2 := Lib.hid (HB.out.drew.trans (hb2.mono HB.out.size))
            have hsz2 : w.heap.size + 1 ≤ w2.heap.size := Nat.le_trans hszr hb2.size
            have HO2 := Lib.hid (row_below (w := wr.drew) (w' := w2) HOw.out hb2)
            have HLt2 : Hid (∀ q, (Value.slice av ps.length capv).ownBlock = some q → w.heap.size + 1 ≤ q) := Lib.hid fun q e => (ownBlock_ge HO2.out e).1
            clear hb2 hc1
            go_wp2_with (first | (at_builtin; refine wpList_append_lies _ rfl _ _ 29 rfl (w.heap.size + 1) 3 i0 (.int .i64 0) 1 8 Try.underlying29 hi hz0 hz1 hz2 rfl (by decide) (.slice av ps.length capv) ps.length (ints ps) rfl (HO2.out.alloc _) ⟨w2.heap.size, 0, none⟩ 1 1 [.int .i64 (k : Int)] rfl rfl (cell_one_new _ _ _) (by simp [Value.oneCell']) (by omega) (by unfold maxLen; omega) (by omega) (by simp; omega) (w2.heap.size + 1) (by simp) ?_; intro gg capg w4 hown4 hgrow4 hat4 hglt4) | go_in)
            have HW4 : Hid (w4.ownsRow (w.heap.size + 1) 3 1 (.slice (some ⟨gg, 0, none⟩) (ps.length + 1) capg) (byK xs want (byOn (farB xs x) 1 (List.range (k + 1)))).length (ints (byK xs want (byOn (farB xs x) 1 (List.range (k + 1)))))) := Lib.hid (by rw [HE.out, ints_snoc]; simpa using hown4)
            have hc4 : w4.cell? ⟨w.heap.size, 0, none⟩ = some (.slice (some ⟨b, o, none⟩) xs.length c) := (World.cell?_of_block (a := ⟨w.heap.size, 0, none⟩) (hgrow4.block w.heap.size (by simp; omega) (fun e => by have := HLt2.out _ e.symm; omega))).trans (keep_cell _ _ hc2)
            have HB4 : Hid (Below w.heap.size w w4) := Lib.hid ((HB2.out.alloc HB2.out.size _).grown hgrow4 (by have := HB2.out.size; simp; omega) (fun q e => by have := HLt2.out q e; omega))
            have HZ4 : Hid (w.heap.size + 1 ≤ w4.heap.size) := Lib.hid (Nat.le_trans hsz2 (Nat.le_trans (by simp) hgrow4.size))
            clear hown4 hgrow4 hat4 hglt4 hc2
            go_wp2
            go_roundw
            case rel => exact ⟨k + 1, by go_num, by omega, HW4.out, hc4, HB4, HZ4⟩
            case measure => simp [intOf]; omega
          | false =>
            have HE : Hid (byK xs want (byOn (farB xs x) 1 (List.range (k + 1))) = ps) := Lib.hid (by rw [HSt.out]; simp)
            clear HSt
            go_wp2
            go_region_held3 (fun w' => w'.cell? ⟨w.heap.size, 0, none⟩ = some (.slice (some ⟨b, o, none⟩) xs.length c) ∧ w'.cell? ⟨b, o + n, none⟩ = some (.string x) ∧ w'.cell? ⟨b, o + k, none⟩ = some (.string y))
              (first
                | go_keep
                | (go_split_ands
                   refine ⟨cell_below hb2 (by assumption), cell_below hb2 (by assumption), cell_below hb2 (by assumption)⟩))
              ((go_at_call 89; refine (HDs.out _).mono ?_; rintro e w2 ⟨rfl, hb2⟩))
            have hc2 : w2.cell? ⟨w.heap.size, 0, none⟩ = some (.slice (some ⟨b, o, none⟩) xs.length c) := (hb2.cell (p := ⟨w.heap.size, 0, none⟩) (by show w.heap.size < wr.heap.size; omega)).trans hc1
            have HB2 := Lib.hid (HB.out.drew.trans (hb2.mono HB.out.size))
            have HZ2 : Hid (w.heap.size + 1 ≤ w2.heap.size) := Lib.hid (Nat.le_trans hszr hb2.size)
            have HW4 : Hid (w2.ownsRow (w.heap.size + 1) 3 1 (.slice av ps.length capv) (byK xs want (byOn (farB xs x) 1 (List.range (k + 1)))).length (ints (byK xs want (byOn (farB xs x) 1 (List.range (k + 1)))))) := Lib.hid (by rw [HE.out]; exact row_below (w := wr.drew) (w' := w2) HOw.out hb2)
            clear hb2 hc1
            go_wp2
            go_roundw
            case rel => exact ⟨k + 1, by go_num, by omega, HW4.out, hc2, HB2, HZ2⟩
            case measure => simp [intOf]; omega
        · obtain rfl : k = xs.length := by omega
          have HO3 := Lib.hid (row_mono hown (Nat.le_succ w.heap.size))
          clear hown
          go_wp2
          go_ret2
          exact seqOut_row HO3.out (Nat.le_refl _) HB.out
    · have hq : (decide (0 ≤ kind) && decide (kind ≤ 2)) = false := by
        rw [Bool.eq_false_iff, ne_eq, Bool.and_eq_true, decide_eq_true_eq, decide_eq_true_eq]; exact hk
      have HR : Hid (lbOk xs i kind = false) := Lib.hid (by unfold lbOk; rw [hm, hq]; rfl)
      have HL : Hid (lbL xs i kind = []) := Lib.hid (if_neg (by rw [HR.out]; simp))
      have HI2 := Lib.hid fun w => val_same (HIn.out w) hq
      rw [HR.out, HL.out]
      clear ht hi0 hin hk hx hm hq HIn
      go_enter Try.func29, Try.ntmps29
      go_wp2_with fail
      refine (F.out _ HB0.out).mono ?_
      rintro e w1 ⟨rfl, hb⟩
      have HB := Lib.hid (HB0.out.trans (hb.mono (by simp; omega)))
      clear hb hc0
      go_wp2_with fail
      refine (HI2.out _).mono ?_
      rintro e w2 ⟨rfl, hww⟩
      obtain rfl := hww.symm
      go_wp2
      go_ret2
      exact seqOut_nothing HB.out _ _
theorem lettersBy_both (xs : List ByteArray) (i kind : Int) (hl : xs.length ≤ 1048576) (ht : ∀ x ∈ xs, x.size ≤ 1048576) (_ : (Lit.int .i64 i).wf = true) (_ : (Lit.int .i64 kind).wf = true) : ∃ (l : List Nat) (R1 : Bool), l.length ≤ 1048576 ∧
    Hid (∀ W a b o c, ListIn W a b o xs → Calls Try.prog 29 #[.agg #[.slice a xs.length c], .int .i64 i, .int .i64 kind] W (SeqOut (ints l) l.length R1 W)) ∧
    Hid (∀ W a b o c, ListIn W a b o xs → Calls Try.prog 30 #[.agg #[.slice a xs.length c], .int .i64 i, .int .i64 kind] W (SeqOut (ints l) l.length R1 W)) :=
  ⟨_, _, Nat.le_trans (lbL_le xs i kind) hl, fun W a b o c h => sLettersBy_any a b o c xs i kind W h, fun W a b o c h => lettersBy_any a b o c xs i kind W h⟩
end Go.Proofs.Ytgdiffdpjpkleaa
