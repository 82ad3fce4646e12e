/-
  EvenTable of the model, and both together. Used by the claims on chapter 6.
-/
import Derived.Test.YtgdiffdpjpkleaaEvnB
import Derived.Test.YtgdiffdpjpkleaaSTableW
import Derived.OneCell
namespace Go.Proofs.Ytgdiffdpjpkleaa
open Go.RowKit
set_option linter.unusedVariables false

theorem cnt_take (x : ByteArray) (j : Nat) (h : j < x.size) : cnt 45 ((bl x).take (j + 1)) = cnt 45 ((bl x).take j) + (if x[j] = 45 then 1 else 0) := by
  rw [List.take_add_one, bl_get x h]
  unfold cnt
  rw [List.countP_append]
  by_cases e : x[j] = 45 <;> simp [e]
theorem grow_facts {w wr w4 : World} {g k cap H : Nat} {y v u : Value} {l : List Value} (hT : Boxed wr H 32 v) (hX : Boxed wr w.heap.size 32 u) (hB : Below w.heap.size w wr) (hown : wr.ownsRow (w.heap.size + 2) 9 1 (.slice (some ⟨g, 0, none⟩) k cap) k l) (hgrow : (wr.alloc (.cells #[y] 9)).grownBy w4 (Value.slice (some ⟨g, 0, none⟩) k cap).ownBlock) : Boxed w4 H 32 v ∧ Boxed w4 w.heap.size 32 u ∧ Below w.heap.size w w4 :=
  ⟨(hT.alloc _).kept hgrow (box_apart hown hT (by decide)), (hX.alloc _).kept hgrow (box_apart hown hX (by decide)), (hB.alloc hB.size _).grown hgrow (by have := hB.size; simp; omega) (fun j e => by have := (hown.lt j e).1; omega)⟩

set_option maxHeartbeats 8000000 in
set_option maxRecDepth 20000 in
theorem sEvenT_any (a : Option Addr) (b o c : Nat) (xs : List ByteArray) (w : World) (h : ListIn w a b o xs) :
    Calls Try.prog 51 #[.agg #[.slice a xs.length c]] w (TabOut (evT xs) (evOk xs) w) := by
  have hl := h.len
  have hbx := (below_alloc w (.cells #[.slice a xs.length c] 32)).alloc (by simp) (.cells #[.slice none 0 0] 32)
  have F := Lib.hid fun o1 o2 => stable_any a b o c xs ((w.alloc o1).alloc o2) (h.below ((below_alloc w o1).alloc (by simp) o2))
  have HS := Lib.hid h
  clear h
  have k0 := (Boxed.new w 32 (.slice a xs.length c)).alloc (.cells #[.slice none 0 0] 32)
  have k1 := Boxed.new (w.alloc (.cells #[.slice a xs.length c] 32)) 32 (.slice none 0 0)
  have e1 : (w.alloc (.cells #[.slice a xs.length c] 32)).heap.size = w.heap.size + 1 := by simp
  have e2 : ((w.alloc (.cells #[.slice a xs.length c] 32)).alloc (.cells #[.slice none 0 0] 32)).heap.size = w.heap.size + 2 := by simp
  rw [e1] at k1
  have K := Lib.hid (And.intro k0 (And.intro k1 (And.intro e2 hbx)))
  clear k0 k1 e1 e2 hbx
  by_cases ht : tableB xs = true
  · have F2 := Lib.hid fun o1 o2 => val_eq (v' := .bool true) (F.out o1 o2) (by rw [ht])
    have h0 : 0 < xs.length := ((tableB_iff xs).1 ht).1.1
    have h10 : xs.length ≤ 10 := ((tableB_iff xs).1 ht).1.2
    obtain rfl := HS.out.src.1 h0
    have HOk : Hid (evOk xs = tableB (evenB xs)) := Lib.hid (by unfold evOk; rw [ht, Bool.true_and])
    have H5 := Lib.hid (marks5 ht)
    obtain ⟨i0, hi, hz0, hz1, hz2⟩ := info_parts infoStr
    clear ht F
    go_enter Try.func51, Try.ntmps51
    go_wp2_with fail
    refine (F2.out _ _).mono ?_
    rintro e w1 ⟨rfl, hb⟩
    rw [K.out.2.2.1] at hb
    have hB1 := boxed_below K.out.1 hb (by omega)
    have hR1 := boxed_below K.out.2.1 hb (by omega)
    have hsz : w.heap.size + 2 ≤ w1.heap.size := Nat.le_trans (by rw [K.out.2.2.1]; exact Nat.le_refl _) hb.size
    have hbl : Below w.heap.size w w1 := K.out.2.2.2.trans (hb.mono (by omega))
    clear hb
    have hm0 : (w1.alloc (Obj.cells #[] 9)).ownsRow (w.heap.size + 2) 9 1 (.slice (some ⟨w1.heap.size, 0, none⟩) 0 0) 0 (trE []) := World.ownsRow_made w1 #[] 0 hsz (by unfold maxLen; omega) rfl
    have hT1 := Boxed.new (w1.alloc (Obj.cells #[] 9)) 32 (.slice (some ⟨w1.heap.size, 0, none⟩) 0 0)
    have eH : (w1.alloc (Obj.cells #[] 9)).heap.size = w1.heap.size + 1 := by simp
    rw [eH] at hT1
    have H1 := Lib.hid (And.intro hB1 (And.intro hR1 (And.intro hbl (And.intro hm0 hT1))))
    clear hB1 hR1 hbl hm0 hT1 eH
    go_wp2
    go_loopw [5] (fun v wr => ∃ (k g cap : Nat), v = .int .i64 k ∧ k ≤ xs.length ∧ Boxed wr (w1.heap.size + 1) 32 (.slice (some ⟨g, 0, none⟩) k cap) ∧ wr.ownsRow (w.heap.size + 2) 9 1 (.slice (some ⟨g, 0, none⟩) k cap) k (trE (xs.take k)) ∧ Boxed wr w.heap.size 32 (.slice (some ⟨b, o, none⟩) xs.length c) ∧ Hid (Boxed wr (w.heap.size + 1) 32 (.slice none 0 0)) ∧ Hid (Below w.heap.size w wr)) (fun v wr => xs.length - (intOf v).toNat)
    case atStart => exact ⟨0, w1.heap.size, 0, rfl, Nat.zero_le _, H1.out.2.2.2.2, H1.out.2.2.2.1.alloc _, (H1.out.1.alloc _).alloc _, Lib.hid ((H1.out.2.1.alloc _).alloc _), Lib.hid ((H1.out.2.2.1.alloc H1.out.2.2.1.size _).alloc (by have := H1.out.2.2.1.size; simp; omega) _)⟩
    case round =>
      obtain ⟨k, g, cap, rfl, hk, hT, hown, hX, HR, HB⟩ := hrel
      have hXc := hX.cell
      have hTc := hT.cell
      by_cases hlt : k < xs.length
      · have hxc : wr.cell? ⟨b, o + k, none⟩ = some (.string xs[k]) := (HS.out.below HB.out).src.2 k _ (List.getElem?_eq_getElem hlt)
        have HTk := Lib.hid (evenB_take xs k _ (List.getElem?_eq_getElem hlt))
        have hx5 := H5.out _ (List.getElem_mem hlt)
        have HXk : Hid (xs[k]? = some xs[k]) := Lib.hid (List.getElem?_eq_getElem hlt)
        generalize xs[k] = x at hxc HTk hx5 HXk
        have i0' : (0 : Int) ≤ (k : Int) := by omega
        have i1' : (k : Int) < (xs.length : Int) := by omega
        have HN : Hid (trE (xs.take (k + 1)) = trE (xs.take k) ++ [.string (ba (evenL (bl x)))]) := Lib.hid (by unfold trE; rw [HTk.out, List.map_append]; rfl)
        have hTne := box_apart hown hT (by decide)
        have hXne := box_apart hown hX (by decide)
        have hRne := box_apart hown HR.out (by decide)
        have hblt : b < w.heap.size := src_lt HS.out.src h0
        have hbne : some b ≠ (Value.slice (some ⟨g, 0, none⟩) k cap).ownBlock := by
          intro e
          have := (hown.lt b e.symm).1
          omega
        have hszw := HB.out.size
        have hHT : w1.heap.size + 1 < wr.heap.size := World.block_lt_of_cell? _ _ hTc
        have hTf := hT.frozen
        have q1 : k + 1 ≤ maxLen := by unfold maxLen; omega
        have q2 : (k + 1) * 16 ≤ 140737488355328 := by omega
        have q3 : w.heap.size + 2 ≤ wr.heap.size := by omega
        have hxm : ¬ 9223372036854775807 < x.size + 1 := by omega
        have HO := Lib.hid hown
        clear hown
        go_wp2
        obtain ⟨W0, hW0⟩ : ∃ W0 : World, W0 = wr := ⟨_, rfl⟩
        rw [← hW0] at hXc hTc hxc hT HO hX HR HB hszw hHT hTf q3 ⊢
        clear hW0
        go_loopw [6, 7] (fun u v wr => ∃ j : Nat, v = .int .i64 j ∧ j ≤ x.size ∧ u = .int .i64 (cnt 45 ((bl x).take j) : Int) ∧ wr = W0) (fun _ v _ => x.size - (intOf v).toNat)
        case atStart => exact ⟨0, rfl, Nat.zero_le _, rfl, rfl⟩
        case round =>
          obtain ⟨j, rfl, hj, rfl, hwr⟩ := hrel
          subst hwr
          by_cases hlj : j < x.size
          · have HCt := Lib.hid (cnt_take x j hlj)
            have hcl : cnt 45 ((bl x).take j) ≤ 5 := by
              have h1 : cnt 45 ((bl x).take j) ≤ ((bl x).take j).length := List.countP_le_length
              have h2 := List.length_take_le j (bl x)
              omega
            generalize cnt 45 ((bl x).take j) = m at HCt hcl
            by_cases hd : x[j] = 45
            · have t1 : ((x[j].toNat : Int) == 45) = true := by rw [hd]; rfl
              have HE : Hid (cnt 45 ((bl x).take (j + 1)) = m + 1) := Lib.hid (by rw [HCt.out, if_pos hd])
              clear hd HCt
              go_wp2
              go_roundw
              case rel => exact ⟨j + 1, by go_num, by omega, by rw [HE.out]; go_num, by trivial⟩
              case measure => simp [intOf]; omega
            · have t1 : ((x[j].toNat : Int) == 45) = false := beq_false_of_ne (fun e => hd (UInt8.toNat_inj.1 (by have : (45 : UInt8).toNat = 45 := rfl; omega)))
              have HE : Hid (cnt 45 ((bl x).take (j + 1)) = m) := Lib.hid (by rw [HCt.out, if_neg hd]; rfl)
              clear hd HCt
              go_wp2
              go_roundw
              case rel => exact ⟨j + 1, by go_num, by omega, by rw [HE.out], by trivial⟩
              case measure => simp [intOf]; omega
          · obtain rfl : j = x.size := by omega
            have hown := HO.out
            have hcl : cnt 45 (bl x) ≤ 5 := by
              have h1 : cnt 45 (bl x) ≤ (bl x).length := List.countP_le_length
              rw [bl_len] at h1
              omega
            have hfull : (bl x).take x.size = bl x := List.take_of_length_le (by rw [bl_len]; omega)
            rw [hfull]
            have HM : Hid (evenL (bl x) = bl x ++ [if cnt 45 (bl x) % 2 = 0 then 46 else 45]) := Lib.hid rfl
            generalize cnt 45 (bl x) = m at hcl HM ⊢
            clear hfull
            by_cases hpar : m % 2 = 0
            · have t1 : ((m : Int).tmod 2 == 1) = false := by rw [Int.tmod_eq_emod_of_nonneg (by omega)]; exact beq_false_of_ne (by omega)
              have t2 : ((m : Int) % 2 == 1) = false := by exact beq_false_of_ne (by omega)
              have HY : Hid (trE (xs.take (k + 1)) = trE (xs.take k) ++ [.string (x ++ (⟨#[46]⟩ : ByteArray))]) := Lib.hid (by rw [HN.out, ba_cat, HM.out, if_pos hpar])
              clear hpar
              go_wp2_with fail
              go_wp2
              go_region_law
                (refine step_append_lies _ (by rfl) _ _ _ (by rfl) (w.heap.size + 2) 9 i0 _ 1 16 Try.underlying25 hi hz0 hz1 hz2 rfl (by omega) (.slice (some ⟨g, 0, none⟩) k cap) k (trE (xs.take k)) (by rfl) ((hown.alloc _).drew)
                    ⟨wr.heap.size, 0, none⟩ 1 1 [.string (x ++ (⟨#[46]⟩ : ByteArray))] (by rfl) (by rfl) (World.news_of_block (cs := #[.string (x ++ (⟨#[46]⟩ : ByteArray))]) (t := 9) (fr := (0, 0)) (heap_alloc_new wr _)) (by simp [Value.oneCell'])
                    (by omega) q1 q2 (Nat.le_trans q3 (below_alloc wr _).size) (wr.heap.size + 1) (by simp) ?_; intro gg capg w4 hown4 hgrow hat hglt; obtain ⟨hT4, hX4, hB4⟩ := grow_facts (wr := wr.drew) hT hX HB.out.drew hown hgrow; have hT4c := hT4.cell; have hT4f := hT4.frozen; have hX4c := hX4.cell; have hx4c := (HS.out.below hB4).src.2 k x HXk.out)
              all_goals (
                have HR4 := Boxed.kept (by exact HR.out.alloc (.cells #[.string (x ++ (⟨#[46]⟩ : ByteArray))] 9)) hgrow hRne
                have HQ : Hid (Boxed (w4.setCell ⟨w1.heap.size + 1, 0, none⟩ (.slice (some ⟨gg, 0, none⟩) (k + 1) capg)) (w1.heap.size + 1) 32 (.slice (some ⟨gg, 0, none⟩) (k + 1) capg) ∧ (w4.setCell ⟨w1.heap.size + 1, 0, none⟩ (.slice (some ⟨gg, 0, none⟩) (k + 1) capg)).ownsRow (w.heap.size + 2) 9 1 (.slice (some ⟨gg, 0, none⟩) (k + 1) capg) (k + 1) (trE (xs.take (k + 1))) ∧ Boxed (w4.setCell ⟨w1.heap.size + 1, 0, none⟩ (.slice (some ⟨gg, 0, none⟩) (k + 1) capg)) w.heap.size 32 (.slice (some ⟨b, o, none⟩) xs.length c) ∧ Hid (Boxed (w4.setCell ⟨w1.heap.size + 1, 0, none⟩ (.slice (some ⟨gg, 0, none⟩) (k + 1) capg)) (w.heap.size + 1) 32 (.slice none 0 0)) ∧ Hid (Below w.heap.size w (w4.setCell ⟨w1.heap.size + 1, 0, none⟩ (.slice (some ⟨gg, 0, none⟩) (k + 1) capg)))) := Lib.hid ⟨hT4.set _, by
                    rw [HY.out]
                    exact hown4.kept (grownBy_setCell' w4 _ _) (.inr (box_apart hown4 hT4 (by decide)).symm), boxed_set hX4 (by omega), Lib.hid (boxed_set HR4 (by omega)), Lib.hid (hB4.setCell (p := ⟨w1.heap.size + 1, 0, none⟩) (by simp; omega) _)⟩
                clear hX4 hX4c hx4c HR4 hB4 hown4 hgrow hat hglt hT4 hT4c hT4f hown hT hX hXc hTc hTf hxc hTne hXne hRne hbne
                go_wp2
                go_roundw
                case rel => exact ⟨k + 1, gg, capg, by go_num, by omega, HQ.out.1, HQ.out.2.1, HQ.out.2.2.1, HQ.out.2.2.2.1, HQ.out.2.2.2.2⟩
                case measure => simp [intOf]; omega)
            · have t1 : ((m : Int).tmod 2 == 1) = true := by rw [Int.tmod_eq_emod_of_nonneg (by omega)]; simp; omega
              have t2 : ((m : Int) % 2 == 1) = true := by simp; omega
              have HY : Hid (trE (xs.take (k + 1)) = trE (xs.take k) ++ [.string (x ++ (⟨#[45]⟩ : ByteArray))]) := Lib.hid (by rw [HN.out, ba_cat, HM.out, if_neg hpar])
              clear hpar
              go_wp2_with fail
              go_wp2
              go_region_law
                (refine step_append_lies _ (by rfl) _ _ _ (by rfl) (w.heap.size + 2) 9 i0 _ 1 16 Try.underlying25 hi hz0 hz1 hz2 rfl (by omega) (.slice (some ⟨g, 0, none⟩) k cap) k (trE (xs.take k)) (by rfl) ((hown.alloc _).drew)
                    ⟨wr.heap.size, 0, none⟩ 1 1 [.string (x ++ (⟨#[45]⟩ : ByteArray))] (by rfl) (by rfl) (World.news_of_block (cs := #[.string (x ++ (⟨#[45]⟩ : ByteArray))]) (t := 9) (fr := (0, 0)) (heap_alloc_new wr _)) (by simp [Value.oneCell'])
                    (by omega) q1 q2 (Nat.le_trans q3 (below_alloc wr _).size) (wr.heap.size + 1) (by simp) ?_; intro gg capg w4 hown4 hgrow hat hglt; obtain ⟨hT4, hX4, hB4⟩ := grow_facts (wr := wr.drew) hT hX HB.out.drew hown hgrow; have hT4c := hT4.cell; have hT4f := hT4.frozen; have hX4c := hX4.cell; have hx4c := (HS.out.below hB4).src.2 k x HXk.out)
              all_goals (
                have HR4 := Boxed.kept (by exact HR.out.alloc (.cells #[.string (x ++ (⟨#[45]⟩ : ByteArray))] 9)) hgrow hRne
                have HQ : Hid (Boxed (w4.setCell ⟨w1.heap.size + 1, 0, none⟩ (.slice (some ⟨gg, 0, none⟩) (k + 1) capg)) (w1.heap.size + 1) 32 (.slice (some ⟨gg, 0, none⟩) (k + 1) capg) ∧ (w4.setCell ⟨w1.heap.size + 1, 0, none⟩ (.slice (some ⟨gg, 0, none⟩) (k + 1) capg)).ownsRow (w.heap.size + 2) 9 1 (.slice (some ⟨gg, 0, none⟩) (k + 1) capg) (k + 1) (trE (xs.take (k + 1))) ∧ Boxed (w4.setCell ⟨w1.heap.size + 1, 0, none⟩ (.slice (some ⟨gg, 0, none⟩) (k + 1) capg)) w.heap.size 32 (.slice (some ⟨b, o, none⟩) xs.length c) ∧ Hid (Boxed (w4.setCell ⟨w1.heap.size + 1, 0, none⟩ (.slice (some ⟨gg, 0, none⟩) (k + 1) capg)) (w.heap.size + 1) 32 (.slice none 0 0)) ∧ Hid (Below w.heap.size w (w4.setCell ⟨w1.heap.size + 1, 0, none⟩ (.slice (some ⟨gg, 0, none⟩) (k + 1) capg)))) := Lib.hid ⟨hT4.set _, by
                    rw [HY.out]
                    exact hown4.kept (grownBy_setCell' w4 _ _) (.inr (box_apart hown4 hT4 (by decide)).symm), boxed_set hX4 (by omega), Lib.hid (boxed_set HR4 (by omega)), Lib.hid (hB4.setCell (p := ⟨w1.heap.size + 1, 0, none⟩) (by simp; omega) _)⟩
                clear hX4 hX4c hx4c HR4 hB4 hown4 hgrow hat hglt hT4 hT4c hT4f hown hT hX hXc hTc hTf hxc hTne hXne hRne hbne
                go_wp2
                go_roundw
                case rel => exact ⟨k + 1, gg, capg, by go_num, by omega, HQ.out.1, HQ.out.2.1, HQ.out.2.2.1, HQ.out.2.2.2.1, HQ.out.2.2.2.2⟩
                case measure => simp [intOf]; omega)
      · obtain rfl : k = xs.length := by omega
        rw [List.take_length] at hown
        have hown2 : wr.ownsRow (w.heap.size + 2) 9 1 (.slice (some ⟨g, 0, none⟩) xs.length cap) xs.length ((evenB xs).map Value.string) := hown
        obtain ⟨a2, g2, c2, hv2, hg2, hs2, hf2⟩ := row_srcT hown2 (evenB_len xs).symm
        injection hv2 with hv1 _ hv3
        subst hv1; subst hv3
        have HLi : Hid (ListIn wr (some ⟨g, 0, none⟩) g2 0 (evenB xs)) := Lib.hid ⟨hs2, by rw [evenB_len]; omega, evenB_small H5.out⟩
        have HG := Lib.hid (stable_any (some ⟨g, 0, none⟩) g2 0 cap (evenB xs) wr HLi.out)
        rw [evenB_len] at HG
        have HF2 := Lib.hid hf2
        have HGe := Lib.hid hg2
        have HZ1 := Lib.hid hsz
        clear hown hown2 hs2 hf2 hg2 hX
        cases hq : tableB (evenB xs) with
        | true =>
          rw [hq] at HG
          have HT : Hid (evT xs = evenB xs ∧ evOk xs = true) := Lib.hid (by
            have h1 : evOk xs = true := by rw [HOk.out, hq]
            exact ⟨if_pos h1, h1⟩)
          clear hq
          go_wp2_with fail
          refine HG.out.mono ?_
          rintro e w5 ⟨rfl, hb⟩
          have hT5 := boxed_below hT hb (World.block_lt_of_cell? _ _ hTc)
          have hR5 := boxed_below HR.out hb (Nat.lt_trans (show w.heap.size + 1 < w1.heap.size + 1 by omega) (World.block_lt_of_cell? _ _ hTc))
          have HB5 := Lib.hid (HB.out.trans (hb.mono HB.out.size))
          have hT5c := hT5.cell
          have hrc := hR5.cell
          have hrf := hR5.frozen
          have HR5 := Lib.hid hR5
          have HL5 := Lib.hid (HLi.out.src.below hb)
          have HF5 : Hid (∀ j, j < (evenB xs).length → w5.frozen? ⟨g2, j, none⟩ = false) := Lib.hid fun j hj => (hb.frozen (p := ⟨g2, j, none⟩) (src_lt HLi.out.src (by omega))).trans (HF2.out j hj)
          clear hb hT hTc hT5 hR5
          go_wp2
          refine bodyPost_ret (res_tab2 rfl _ rfl (HR5.out.set _)) rfl ?_
          rw [HT.out.1, HT.out.2]
          refine ⟨some ⟨g, 0, none⟩, g2, cap, by rw [evenB_len]; rfl, ?_, fun h => Nat.le_trans (by omega) (HGe.out h), fun j hj => ?_, HB5.out.setCell (p := ⟨w.heap.size + 1, 0, none⟩) (by simp) _⟩
          · refine ⟨HL5.out.1, fun j x hx => ?_⟩
            have hgg := HGe.out (by have := (List.getElem?_eq_some_iff.1 hx).1; omega)
            rw [World.cell?_setCell_other _ _ _ _ (by intro e; have e2 := congrArg Addr.block e; simp only at e2; omega)]
            exact HL5.out.2 j x hx
          · rw [World.frozen?_setCell]
            exact HF5.out j hj
        | false =>
          rw [hq] at HG
          have HT : Hid (evT xs = [] ∧ evOk xs = false) := Lib.hid (by
            have h1 : evOk xs = false := by rw [HOk.out, hq]
            exact ⟨if_neg (by rw [h1]; simp), h1⟩)
          clear hq
          go_wp2_with fail
          refine HG.out.mono ?_
          rintro e w5 ⟨rfl, hb⟩
          have hR5 := boxed_below HR.out hb (Nat.lt_trans (show w.heap.size + 1 < w1.heap.size + 1 by omega) (World.block_lt_of_cell? _ _ hTc))
          have HB5 := Lib.hid (HB.out.trans (hb.mono HB.out.size))
          have hrc := hR5.cell
          have hrf := hR5.frozen
          have HR5 := Lib.hid hR5
          clear hb hT hTc hR5
          go_wp2
          refine bodyPost_ret (res_tab2 rfl _ rfl (HR5.out.set _)) rfl ?_
          rw [HT.out.1, HT.out.2]
          exact tabOut_none (HB5.out.setCell (p := ⟨w.heap.size + 1, 0, none⟩) (by simp) _)
  · have F2 := Lib.hid fun o1 o2 => val_eq (v' := .bool false) (F.out o1 o2) (by simp [ht])
    have HT : Hid (evT xs = [] ∧ evOk xs = false) := Lib.hid (by
      have h1 : evOk xs = false := by unfold evOk; simp [ht]
      exact ⟨if_neg (by rw [h1]; simp), h1⟩)
    clear ht F
    go_enter Try.func51, Try.ntmps51
    go_wp2_with fail
    refine (F2.out _ _).mono ?_
    rintro e w1 ⟨rfl, hb⟩
    rw [K.out.2.2.1] at hb
    have hR1 := boxed_below K.out.2.1 hb (by omega)
    have hrc := hR1.cell
    have hrf := hR1.frozen
    have H1 := Lib.hid (And.intro hR1 (K.out.2.2.2.trans (hb.mono (by omega))))
    clear hb hR1
    go_wp2
    refine bodyPost_ret (res_tab2 rfl _ rfl (H1.out.1.set _)) rfl ?_
    rw [HT.out.1, HT.out.2]
    exact tabOut_none (H1.out.2.setCell (p := ⟨w.heap.size + 1, 0, none⟩) (by simp) _)

theorem evenTable_both (xs : List ByteArray) (hl : xs.length ≤ 1048576) (ht : ∀ x ∈ xs, x.size ≤ 1048576) : ∃ (ys : List ByteArray) (R1 : Bool), ys.length ≤ 10 ∧
    Hid (∀ W a b o c, ListIn W a b o xs → xs.length ≤ c → Calls Try.prog 51 #[.agg #[.slice a xs.length c]] W (TabOut ys R1 W)) ∧
    Hid (∀ W a b o c, ListIn W a b o xs → xs.length ≤ c → Calls Try.prog 52 #[.agg #[.slice a xs.length c]] W (TabOut ys R1 W)) :=
  ⟨evT xs, evOk xs, evT_len xs, fun W a b o c h _ => sEvenT_any a b o c xs W h, fun W a b o c h _ => evenT_any a b o c xs W h⟩
end Go.Proofs.Ytgdiffdpjpkleaa
