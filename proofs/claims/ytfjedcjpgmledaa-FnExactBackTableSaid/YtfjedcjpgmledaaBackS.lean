/-
  BackTable of the model: how it ends. Used by the claims on chapter 2.
-/
import Derived.Test.YtfjedcjpgmledaaOppS
import Derived.Test.YtfjedcjpgmledaaTurnS
import Derived.Deep.AppendLies
import Derived.Deep.RegionLaw
import Derived.Deep.RegionHeldLaw
import Derived.OneCell
namespace Go.Proofs.Ytfjedcjpgmledaa
open Go.RowKit
set_option linter.unusedVariables false

set_option maxHeartbeats 4000000 in
set_option maxRecDepth 20000 in
theorem sBackT_any (a : Option Addr) (b o c : Nat) (xs : List ByteArray) (w : World) (h : ListIn w a b o xs) :
    Calls Try.prog 25 #[.agg #[.slice a xs.length c]] w (TabOut (turnT List.reverse xs) (tableB xs) w) := by
  have hl := h.len
  have hbx := (below_alloc w (.cells #[.slice a xs.length c] 26)).alloc (by simp) (.cells #[.slice none 0 0] 26)
  have F := Lib.hid fun o1 o2 => stable_any a b o c xs ((w.alloc o1).alloc o2) (h.below ((below_alloc w o1).alloc (by simp) o2))
  have HS := Lib.hid h
  clear h
  have k0 := (Boxed.new w 26 (.slice a xs.length c)).alloc (.cells #[.slice none 0 0] 26)
  have k1 := Boxed.new (w.alloc (.cells #[.slice a xs.length c] 26)) 26 (.slice none 0 0)
  have e1 : (w.alloc (.cells #[.slice a xs.length c] 26)).heap.size = w.heap.size + 1 := by simp
  have e2 : ((w.alloc (.cells #[.slice a xs.length c] 26)).alloc (.cells #[.slice none 0 0] 26)).heap.size = w.heap.size + 2 := by simp
  rw [e1] at k1
  have K := Lib.hid (And.intro k0 (And.intro k1 (And.intro e2 hbx)))
  clear k0 k1 e1 e2 hbx
  by_cases ht : tableB xs = true
  · have F2 := Lib.hid fun o1 o2 => val_eq (v' := .bool true) (F.out o1 o2) (by rw [ht])
    have h0 : 0 < xs.length := ((tableB_iff xs).1 ht).1.1
    have h10 : xs.length ≤ 10 := ((tableB_iff xs).1 ht).1.2
    obtain rfl := HS.out.src.1 h0
    have HT : Hid (turnT List.reverse xs = xs.map (fun x => ba (List.reverse (bl x))) ∧ tableB xs = true) := Lib.hid ⟨turn_yes ht, ht⟩
    have HSz := Lib.hid HS.out.texts
    obtain ⟨i0, hi, hz0, hz1, hz2⟩ := info_parts infoStr
    clear ht F
    go_enter Try.func25, Try.ntmps25
    go_wp2_with fail
    refine (F2.out _ _).mono ?_
    rintro e w1 ⟨rfl, hb⟩
    rw [K.out.2.2.1] at hb
    have hB1 := boxed_below K.out.1 hb (by omega)
    have hR1 := boxed_below K.out.2.1 hb (by omega)
    have hsz : w.heap.size + 2 ≤ w1.heap.size := Nat.le_trans (by rw [K.out.2.2.1]; exact Nat.le_refl _) hb.size
    have hbl : Below w.heap.size w w1 := K.out.2.2.2.trans (hb.mono (by omega))
    clear hb
    have hm0 : (w1.alloc (Obj.cells #[] 9)).ownsRow (w.heap.size + 2) 9 1 (.slice (some ⟨w1.heap.size, 0, none⟩) 0 0) 0 (trn List.reverse []) := World.ownsRow_made w1 #[] 0 hsz (by unfold maxLen; omega) rfl
    have hT1 := Boxed.new (w1.alloc (Obj.cells #[] 9)) 26 (.slice (some ⟨w1.heap.size, 0, none⟩) 0 0)
    have eH : (w1.alloc (Obj.cells #[] 9)).heap.size = w1.heap.size + 1 := by simp
    rw [eH] at hT1
    have H1 := Lib.hid (And.intro hB1 (And.intro hR1 (And.intro hbl (And.intro hm0 hT1))))
    clear hB1 hR1 hbl hm0 hT1 eH
    go_wp2
    go_loopw [5] (fun v wr => ∃ (k g cap : Nat), v = .int .i64 k ∧ k ≤ xs.length ∧ Boxed wr (w1.heap.size + 1) 26 (.slice (some ⟨g, 0, none⟩) k cap) ∧ wr.ownsRow (w.heap.size + 2) 9 1 (.slice (some ⟨g, 0, none⟩) k cap) k (trn List.reverse (xs.take k)) ∧ Boxed wr w.heap.size 26 (.slice (some ⟨b, o, none⟩) xs.length c) ∧ Hid (Boxed wr (w.heap.size + 1) 26 (.slice none 0 0)) ∧ Hid (Below w.heap.size w wr)) (fun v wr => xs.length - (intOf v).toNat)
    case atStart => exact ⟨0, w1.heap.size, 0, rfl, Nat.zero_le _, H1.out.2.2.2.2, H1.out.2.2.2.1.alloc _, (H1.out.1.alloc _).alloc _, Lib.hid ((H1.out.2.1.alloc _).alloc _), Lib.hid ((H1.out.2.2.1.alloc H1.out.2.2.1.size _).alloc (by have := H1.out.2.2.1.size; simp; omega) _)⟩
    case round =>
      obtain ⟨k, g, cap, rfl, hk, hT, hown, hX, HR, HB⟩ := hrel
      have hXc := hX.cell
      have hTc := hT.cell
      by_cases hlt : k < xs.length
      · have hxc : wr.cell? ⟨b, o + k, none⟩ = some (.string xs[k]) := (HS.out.below HB.out).src.2 k _ (List.getElem?_eq_getElem hlt)
        have HTk : Hid (xs.take (k + 1) = xs.take k ++ [xs[k]]) := Lib.hid (by rw [List.take_add_one, List.getElem?_eq_getElem hlt]; rfl)
        have hxsz : xs[k].size ≤ 1048576 := HSz.out _ (List.getElem_mem hlt)
        have HXk : Hid (xs[k]? = some xs[k]) := Lib.hid (List.getElem?_eq_getElem hlt)
        generalize xs[k] = x at hxc HTk hxsz HXk
        have HC := Lib.hid fun w => back_any x w hxsz
        have i0' : (0 : Int) ≤ (k : Int) := by omega
        have i1' : (k : Int) < (xs.length : Int) := by omega
        have HN : Hid (trn List.reverse (xs.take (k + 1)) = trn List.reverse (xs.take k) ++ [.string (ba (List.reverse (bl x)))]) := Lib.hid (by rw [HTk.out, trn_snoc])
        have hTne := box_apart hown hT (by decide)
        have hXne := box_apart hown hX (by decide)
        have hRne := box_apart hown HR.out (by decide)
        have hbw := HS.out.src
        have hblt : b < w.heap.size := src_lt HS.out.src h0
        have hbne : some b ≠ (Value.slice (some ⟨g, 0, none⟩) k cap).ownBlock := by
          intro e
          have := (hown.lt b e.symm).1
          omega
        have hszw := HB.out.size
        have hHT : w1.heap.size + 1 < wr.heap.size := World.block_lt_of_cell? _ _ hTc
        obtain ⟨y, hy⟩ : ∃ y, y = ba (List.reverse (bl x)) := ⟨_, rfl⟩
        rw [← hy] at HC HN
        clear hbw hy
        go_wp2_with fail
        go_region_law
          ((first
            | (refine step_append_lies _ (by rfl) _ _ _ (by rfl) (w.heap.size + 2) 9 i0 _ 1 16 Try.underlying24 hi hz0 hz1 hz2 rfl (by omega) (.slice (some ⟨g, 0, none⟩) k cap) k (trn List.reverse (xs.take k)) (by rfl) ((hown.alloc _).drew)
                ⟨wr.heap.size, 0, none⟩ 1 1 [.string y] (by rfl) (by rfl) (World.news_of_block (cs := #[.string y]) (t := 9) (fr := (0, 0)) (heap_alloc_new wr _)) (by simp [Value.oneCell'])
                (by omega) (by unfold maxLen; omega) (by omega) (by simp; omega) (wr.heap.size + 1) (by simp) ?_; intro gg capg w4 hown4 hgrow hat hglt; obtain ⟨hT4, hX4, hB4⟩ := grow_facts (wr := wr.drew) hT hX HB.out.drew hown hgrow; have hT4c := hT4.cell; have hT4f := hT4.frozen; have hX4c := hX4.cell; have hx4c := (HS.out.below hB4).src.2 k x HXk.out)
            | (go_simp; go_at_call 67; refine (HC.out _).mono ?_; rintro e w' ⟨rfl, hww⟩; obtain rfl := hww.symm)))
        all_goals (
          have HR4 := Boxed.kept (by exact HR.out.alloc (.cells #[.string y] 9)) hgrow hRne
          have HQ : Hid (Boxed (w4.setCell ⟨w1.heap.size + 1, 0, none⟩ (.slice (some ⟨gg, 0, none⟩) (k + 1) capg)) (w1.heap.size + 1) 26 (.slice (some ⟨gg, 0, none⟩) (k + 1) capg) ∧ (w4.setCell ⟨w1.heap.size + 1, 0, none⟩ (.slice (some ⟨gg, 0, none⟩) (k + 1) capg)).ownsRow (w.heap.size + 2) 9 1 (.slice (some ⟨gg, 0, none⟩) (k + 1) capg) (k + 1) (trn List.reverse (xs.take (k + 1))) ∧ Boxed (w4.setCell ⟨w1.heap.size + 1, 0, none⟩ (.slice (some ⟨gg, 0, none⟩) (k + 1) capg)) w.heap.size 26 (.slice (some ⟨b, o, none⟩) xs.length c) ∧ Hid (Boxed (w4.setCell ⟨w1.heap.size + 1, 0, none⟩ (.slice (some ⟨gg, 0, none⟩) (k + 1) capg)) (w.heap.size + 1) 26 (.slice none 0 0)) ∧ Hid (Below w.heap.size w (w4.setCell ⟨w1.heap.size + 1, 0, none⟩ (.slice (some ⟨gg, 0, none⟩) (k + 1) capg)))) := Lib.hid ⟨hT4.set _, by
              rw [HN.out]
              exact hown4.kept (grownBy_setCell' w4 _ _) (.inr (box_apart hown4 hT4 (by decide)).symm), boxed_set hX4 (by omega), Lib.hid (boxed_set HR4 (by omega)), Lib.hid (hB4.setCell (p := ⟨w1.heap.size + 1, 0, none⟩) (by simp; omega) _)⟩
          clear hX4 hX4c hx4c HR4 hB4 hown4 hgrow hat hglt hT4 hT4c hT4f hown hT hX hXc hTc hxc HC HTk hTne hXne hRne hbne
          go_wp2
          go_roundw
          case rel => exact ⟨k + 1, gg, capg, by go_num, by omega, HQ.out.1, HQ.out.2.1, HQ.out.2.2.1, HQ.out.2.2.2.1, HQ.out.2.2.2.2⟩
          case measure => simp [intOf]; omega)
      · obtain rfl : k = xs.length := by omega
        have hrc := HR.out.cell
        have hrf := HR.out.frozen
        go_wp2
        refine bodyPost_ret (res_tab2 rfl _ rfl (HR.out.set _)) rfl ?_
        rw [HT.out.1, HT.out.2]
        have hown2 : wr.ownsRow (w.heap.size + 2) 9 1 (.slice (some ⟨g, 0, none⟩) (xs.map (fun x => ba (List.reverse (bl x)))).length cap) (xs.map (fun x => ba (List.reverse (bl x)))).length ((xs.map (fun x => ba (List.reverse (bl x)))).map Value.string) := by
          rw [List.length_map, List.map_map]
          rw [List.take_length] at hown
          exact hown
        obtain ⟨g', cap', hv, hgb, _, hsrc, hopen⟩ := row_src hown2 (by rw [List.length_map]; exact h0)
        injection hv with hv1 _ hv3
        injection hv1 with hv4
        injection hv4 with hv5 _ _
        subst hv5
        refine ⟨_, g, cap, by rw [List.length_map]; rfl, ?_, fun _ => by omega, fun j hj => ?_, HB.out.setCell (p := ⟨w.heap.size + 1, 0, none⟩) (by simp) _⟩
        · refine ⟨fun _ => rfl, fun j x hx => ?_⟩
          rw [World.cell?_setCell_other _ _ _ _ (by intro e; have e2 := congrArg Addr.block e; simp only at e2; omega)]
          exact hsrc.2 j x hx
        · rw [World.frozen?_setCell]
          exact hopen j hj
  · have F2 := Lib.hid fun o1 o2 => val_eq (v' := .bool false) (F.out o1 o2) (by simp [ht])
    have HT : Hid (turnT List.reverse xs = [] ∧ tableB xs = false) := Lib.hid (by
      have h1 : tableB xs = false := by simpa using ht
      exact ⟨turn_no h1, h1⟩)
    clear ht F
    go_enter Try.func25, Try.ntmps25
    go_wp2_with fail
    refine (F2.out _ _).mono ?_
    rintro e w1 ⟨rfl, hb⟩
    rw [K.out.2.2.1] at hb
    have hR1 := boxed_below K.out.2.1 hb (by omega)
    have hrc := hR1.cell
    have hrf := hR1.frozen
    have H1 := Lib.hid (And.intro hR1 (K.out.2.2.2.trans (hb.mono (by omega))))
    clear hb hR1
    go_wp2
    refine bodyPost_ret (res_tab2 rfl _ rfl (H1.out.1.set _)) rfl ?_
    rw [HT.out.1, HT.out.2]
    exact tabOut_none (H1.out.2.setCell (p := ⟨w.heap.size + 1, 0, none⟩) (by simp) _)
end Go.Proofs.Ytfjedcjpgmledaa
