/-
  BestFrom, the program's and the model's. Used by the claims on chapter 8.
-/
import Derived.Test.YtdphjnbelggcfaaIboS
import Derived.Test.YtdphjnbelggcfaaMarkT
namespace Go.Proofs.Ytdphjnbelggcfaa
open Go.RowKit
set_option linter.unusedVariables false

def bfB (xs : List ByteArray) (l : List Int) : Bool := tableB xs && (wtB l && decide (l.length ≤ xs.length))
def bfR (xs : List ByteArray) (l : List Int) : List ByteArray := if bfB xs l = true then fstL (srtX xs) (l.map Int.toNat) else []
theorem bf_no {xs : List ByteArray} {l : List Int} (h : bfB xs l = false) : bfR xs l = [] := by unfold bfR; rw [if_neg (by simp [h])]
theorem bf_yes {xs : List ByteArray} {m : List Nat} (h : bfB xs (zs m) = true) : bfR xs (zs m) = fstL (srtX xs) m := by unfold bfR; rw [if_pos h, map_zs]

set_option maxHeartbeats 2000000 in
set_option maxRecDepth 20000 in
theorem bestFromT_any (a : Option Addr) (b o c : Nat) (xs : List ByteArray) (a1 : Option Addr) (g1 c1 : Nat) (l : List Int) (w : World) (h : ListIn w a b o xs) (hs : SrcV w a1 g1 (intz l)) (hl : l.length ≤ 1048576) :
    Calls Try.prog 61 #[.slice a xs.length c, .slice a1 l.length c1] w (TabOut (bfR xs l) (bfB xs l) w) := by
  have hxl := h.len
  have F := Lib.hid fun W hb => isTable_any a b o c xs W (h.below (w' := W) hb)
  have G := Lib.hid fun W hb => areWeights_any a1 g1 c1 l W (hs.below (w' := W) hb) hl
  have HB0 := Lib.hid (below_alloc w (.cells #[.slice none 0 0] 35))
  have HX := Lib.hid (Boxed.new w 35 (.slice none 0 0))
  by_cases ht : tableB xs = true
  · have F2 := Lib.hid fun W hb => val_eq (v' := .bool true) (F.out W hb) (by rw [ht])
    by_cases hw : wtB l = true
    · have G2 : Hid (∀ W, Below w.heap.size w W → Calls Try.prog 111 #[.slice a1 l.length c1] W fun e w' => e = .returned (.bool true) ∧ w' = W) := Lib.hid fun W hb => by rw [← hw]; exact G.out W hb
      by_cases hle : l.length ≤ xs.length
      · obtain ⟨m, rfl, hm⟩ := wtB_nat hw
        rw [zs_len] at hle G2 ⊢
        obtain ⟨hz, hmk, hn⟩ := (tableB_iff xs).1 ht
        have hyes : bfB xs (zs m) = true := by unfold bfB; rw [ht, hw, zs_len]; simpa using hle
        obtain rfl := h.src.1 (by omega)
        have hm1 : 1 ≤ m.length := hm.pos
        obtain rfl := hs.1 (by rw [intz_len, zs_len]; omega)
        have i1 : ¬ (xs.length : Int) < (m.length : Int) := by omega
        have HFr := Lib.hid fun W (hb : Below w.heap.size w W) => bestFrom_any b o c g1 c1 (m.length - 1) m.length xs.length xs m W (by omega) rfl (h.below hb).src ht (fun k hk => by
          have := zs_srcI (srcI_of (hs.below hb)) k (by omega)
          rw [Nat.zero_add] at this
          rw [this, uAt_eq (by omega)]) (fun k => uAt_le hm k) (by omega) (by omega)
        have HR : Hid (bfR xs (zs m) = fstL (srtX xs) m ∧ bfB xs (zs m) = true ∧ (fstL (srtX xs) m).length = m.length ∧ xs.Nodup) := Lib.hid ⟨bf_yes hyes, hyes, fstL_len _ _, hn⟩
        rw [HR.out.1, HR.out.2.1]
        clear h hs ht hw hyes hle F G hl hm hz hmk hn
        go_enter Try.func61, Try.ntmps61
        go_wp2_with fail
        refine (F2.out _ HB0.out).mono ?_
        rintro e w1 ⟨rfl, hb⟩
        have HX1 := Lib.hid (boxed_below HX.out hb (by simp))
        have HB1 := Lib.hid (HB0.out.trans (hb.mono HB0.out.size))
        have hXl : w.heap.size < w1.heap.size := boxed_lt HX1.out
        clear hb
        go_wp2_with fail
        refine (G2.out _ HB1.out).mono ?_
        rintro e w2 ⟨rfl, rfl⟩
        go_wp2_with fail
        refine (HFr.out _ HB1.out).mono ?_
        rintro e w3 ⟨ys, gg, cap, rfl, hsr, hmem, hly, hsrc, hgg, hop, hb3⟩
        have HX3 := Lib.hid (boxed_below HX1.out hb3 hXl)
        have HB3 := Lib.hid (HB1.out.trans (hb3.mono HB1.out.size))
        have HS3 : Hid (Src w3 (some ⟨gg, 0, none⟩) gg 0 (fstL (srtX xs) m) ∧ w.heap.size < gg ∧ (∀ j, j < m.length → w3.frozen? ⟨gg, j, none⟩ = false)) := Lib.hid ⟨by rw [← srtX_eq HR.out.2.2.2 hsr hmem]; exact hsrc, by omega, hop⟩
        have c4 := HX3.out.cell
        have f4 := HX3.out.frozen
        clear hsr hmem hly hsrc hgg hop hb3
        go_wp2
        refine bodyPost_ret (res_tab2 rfl _ rfl (HX3.out.set _)) rfl ?_
        refine ⟨some ⟨gg, 0, none⟩, gg, cap, by rw [HR.out.2.2.1]; rfl, ⟨fun _ => rfl, fun j x hx => ?_⟩, fun _ => by have := HS3.out.2.1; omega, fun j hj => ?_, HB3.out.setCell (p := ⟨w.heap.size, 0, none⟩) (by simp) _⟩
        · rw [World.cell?_setCell_other _ _ _ _ (by intro e; have e2 := congrArg Addr.block e; have := HS3.out.2.1; simp only at e2; omega)]
          exact HS3.out.1.2 j x hx
        · rw [World.frozen?_setCell]
          exact HS3.out.2.2 j (by rw [← HR.out.2.2.1]; exact hj)
      · have hno : bfB xs l = false := by unfold bfB; rw [ht, hw]; simp; omega
        rw [bf_no hno, hno]
        have i1 : (xs.length : Int) < (l.length : Int) := by omega
        clear h hs ht hw hno hle F G
        go_enter Try.func61, Try.ntmps61
        go_wp2_with fail
        refine (F2.out _ HB0.out).mono ?_
        rintro e w1 ⟨rfl, hb⟩
        have HX1 := Lib.hid (boxed_below HX.out hb (by simp))
        have HB1 := Lib.hid (HB0.out.trans (hb.mono HB0.out.size))
        have c4 := HX1.out.cell
        have f4 := HX1.out.frozen
        clear hb
        go_wp2_with fail
        refine (G2.out _ HB1.out).mono ?_
        rintro e w2 ⟨rfl, rfl⟩
        go_wp2
        refine bodyPost_ret (res_tab2 rfl _ rfl (HX1.out.set _)) rfl ?_
        exact tabOut_none (HB1.out.setCell (p := ⟨w.heap.size, 0, none⟩) (by simp) _)
    · have hw2 : wtB l = false := by simpa using hw
      have G2 : Hid (∀ W, Below w.heap.size w W → Calls Try.prog 111 #[.slice a1 l.length c1] W fun e w' => e = .returned (.bool false) ∧ w' = W) := Lib.hid fun W hb => by rw [← hw2]; exact G.out W hb
      have hno : bfB xs l = false := by unfold bfB; rw [hw2]; simp
      rw [bf_no hno, hno]
      clear h hs ht hw hw2 hno F G
      go_enter Try.func61, Try.ntmps61
      go_wp2_with fail
      refine (F2.out _ HB0.out).mono ?_
      rintro e w1 ⟨rfl, hb⟩
      have HX1 := Lib.hid (boxed_below HX.out hb (by simp))
      have HB1 := Lib.hid (HB0.out.trans (hb.mono HB0.out.size))
      have c4 := HX1.out.cell
      have f4 := HX1.out.frozen
      clear hb
      go_wp2_with fail
      refine (G2.out _ HB1.out).mono ?_
      rintro e w2 ⟨rfl, rfl⟩
      go_wp2
      refine bodyPost_ret (res_tab2 rfl _ rfl (HX1.out.set _)) rfl ?_
      exact tabOut_none (HB1.out.setCell (p := ⟨w.heap.size, 0, none⟩) (by simp) _)
  · have hf2 : tableB xs = false := by simpa using ht
    have F2 := Lib.hid fun W hb => val_eq (v' := .bool false) (F.out W hb) (by rw [hf2])
    have hno : bfB xs l = false := by unfold bfB; rw [hf2]; rfl
    rw [bf_no hno, hno]
    clear h hs ht hf2 hno F G
    go_enter Try.func61, Try.ntmps61
    go_wp2_with fail
    refine (F2.out _ HB0.out).mono ?_
    rintro e w1 ⟨rfl, hb⟩
    have HX1 := Lib.hid (boxed_below HX.out hb (by simp))
    have HB1 := Lib.hid (HB0.out.trans (hb.mono HB0.out.size))
    have c4 := HX1.out.cell
    have f4 := HX1.out.frozen
    clear hb
    go_wp2
    refine bodyPost_ret (res_tab2 rfl _ rfl (HX1.out.set _)) rfl ?_
    exact tabOut_none (HB1.out.setCell (p := ⟨w.heap.size, 0, none⟩) (by simp) _)

/-! ### The model's -/
set_option maxHeartbeats 2000000 in
set_option maxRecDepth 20000 in
theorem sBestFromT_any (a : Option Addr) (b o c : Nat) (xs : List ByteArray) (a1 : Option Addr) (g1 : Nat) (l : List Int) (w : World) (h : ListIn w a b o xs) (hs : SrcV w a1 g1 (intz l)) (hl : l.length ≤ 1048576) :
    Calls Try.prog 58 #[.slice a xs.length c, .slice a1 l.length l.length] w (TabOut (bfR xs l) (bfB xs l) w) := by
  have hxl := h.len
  have F := Lib.hid fun W hb => stable_any a b o c xs W (h.below (w' := W) hb)
  have G := Lib.hid fun W hb => sWeights_any a1 g1 l.length l W (hs.below (w' := W) hb) hl
  have HB0 := Lib.hid (below_alloc w (.cells #[.slice none 0 0] 35))
  have HX := Lib.hid (Boxed.new w 35 (.slice none 0 0))
  by_cases ht : tableB xs = true
  · have F2 := Lib.hid fun W hb => val_eq (v' := .bool true) (F.out W hb) (by rw [ht])
    by_cases hw : wtB l = true
    · have G2 : Hid (∀ W, Below w.heap.size w W → Calls Try.prog 108 #[.slice a1 l.length l.length] W fun e w' => e = .returned (.bool true) ∧ w' = W) := Lib.hid fun W hb => by rw [← hw]; exact G.out W hb
      by_cases hle : l.length ≤ xs.length
      · obtain ⟨m, rfl, hm⟩ := wtB_nat hw
        rw [zs_len] at hle G2 ⊢
        obtain ⟨hz, hmk, hn⟩ := (tableB_iff xs).1 ht
        have hyes : bfB xs (zs m) = true := by unfold bfB; rw [ht, hw, zs_len]; simpa using hle
        obtain rfl := h.src.1 (by omega)
        have hm1 : 1 ≤ m.length := hm.pos
        obtain rfl := hs.1 (by rw [intz_len, zs_len]; omega)
        have i1 : ¬ (xs.length : Int) < (m.length : Int) := by omega
        have i2 : ¬ xs.length < m.length := by omega
        have i3 : decide (xs.length < m.length) = false := by simpa using i2
        have h3 := srtX_srt hn
        have HFr := Lib.hid fun W B cap (hb : Below w.heap.size w W) (hr : RowO W B (srtX xs)) => sFirst_any B 0 cap (srtX xs) g1 0 m.length m xs.length m.length W h3.2.2.symm rfl hr.src (srcI_of (hs.below hb)) hm.each hm.len (by omega) (by omega) (Nat.le_refl _) (by unfold maxLen; have := hm.len; omega) (fun y hy => hmk y ((h3.2.1 y).1 hy)) (srtB_times h3.1)
        have G3 : Hid (∀ W B cap k, k < xs.length → k ≤ cap → cap ≤ maxLen → RowO W B (srtX (xs.take k)) → Calls Try.prog 109 #[.slice (some ⟨B, 0, none⟩) k cap, .string (xs.getD k ⟨#[]⟩)] W fun e w' => ∃ B2 cap2, e = .returned (.slice (some ⟨B2, 0, none⟩) ((k + 1 : Nat)) cap2) ∧ RowO w' B2 (srtX (xs.take (k + 1))) ∧ k + 1 ≤ cap2 ∧ cap2 ≤ maxLen ∧ Below W.heap.size W w') := Lib.hid fun W B cap k hk hc hcm hr => by
          have h4 := srtX_take hn k (by omega)
          have hx : xs.getD k ⟨#[]⟩ = xs[k] := by rw [List.getD_eq_getElem?_getD, List.getElem?_eq_getElem hk]; rfl
          rw [hx]
          refine (sPut_any B 0 cap (srtX (xs.take k)) xs[k] k W h4.1.symm (by omega) hcm hr.src (fun y hy => hmk y (h4.2 y hy)) (hmk _ (List.getElem_mem hk)) (by omega)).mono ?_
          rintro e w' ⟨v, rfl, hown, hbl⟩
          rw [← srtX_next hk] at hown
          obtain ⟨B2, cap2, rfl, hr2, _, q1, q2⟩ := rowO_made hown (srtX_take hn (k + 1) hk).1.symm (by omega)
          exact ⟨B2, cap2, rfl, hr2, q1, q2, hbl⟩
        have HXx : Hid (∀ W k, Below w.heap.size w W → k < xs.length → W.cell? ⟨b, o + k, none⟩ = some (.string (xs.getD k ⟨#[]⟩))) := Lib.hid fun W k hb hk => by
          rw [(h.below hb).src.2 k _ (List.getElem?_eq_getElem hk), List.getD_eq_getElem?_getD, List.getElem?_eq_getElem hk]; rfl
        have HTk : Hid (srtX (xs.take xs.length) = srtX xs) := Lib.hid (by rw [List.take_length])
        have HR : Hid (bfR xs (zs m) = fstL (srtX xs) m ∧ bfB xs (zs m) = true ∧ (fstL (srtX xs) m).length = m.length ∧ xs.Nodup) := Lib.hid ⟨bf_yes hyes, hyes, fstL_len _ _, hn⟩
        rw [HR.out.1, HR.out.2.1]
        clear h hs ht hw hyes hle F G hl hm hz hmk hn
        go_enter Try.func58, Try.ntmps58
        go_wp2_with fail
        refine (F2.out _ HB0.out).mono ?_
        rintro e w1 ⟨rfl, hb⟩
        have HX1 := Lib.hid (boxed_below HX.out hb (by simp))
        have HB1 := Lib.hid (HB0.out.trans (hb.mono HB0.out.size))
        have hXl : w.heap.size < w1.heap.size := boxed_lt HX1.out
        clear hb
        go_wp2_with fail
        refine (G2.out _ HB1.out).mono ?_
        rintro e w2 ⟨rfl, rfl⟩
        have HXe : Hid (Boxed (w2.alloc (.cells #[] 9)) w.heap.size 35 (.slice none 0 0)) := Lib.hid (boxed_below HX1.out (below_alloc _ _) hXl)
        have HBe : Hid (Below w.heap.size w (w2.alloc (.cells #[] 9))) := Lib.hid (HB1.out.alloc HB1.out.size _)
        go_wp2
        clear i1 h3
        (try simp only [i3])
        clear i2 i3
        go_loopw [6, 7] (fun tv v wr => ∃ (k B cap : Nat), tv = .slice (some ⟨B, 0, none⟩) k cap ∧ v = .int .i64 (k : Int) ∧ k ≤ xs.length ∧ Hid (RowO wr B (srtX (xs.take k)) ∧ k ≤ cap ∧ cap ≤ maxLen) ∧ Hid (Below w.heap.size w wr) ∧ Hid (Boxed wr w.heap.size 35 (.slice none 0 0))) (fun _ v _ => xs.length - (intOf v).toNat)
        case atStart => exact ⟨0, w2.heap.size, 0, rfl, rfl, Nat.zero_le _, Lib.hid ⟨⟨fun k hk => by simp [srtX] at hk, fun k hk => by simp [srtX] at hk, by simp⟩, Nat.le_refl _, Nat.zero_le _⟩, HBe, HXe⟩
        case round =>
          clear HXe HBe
          obtain ⟨k, B, cap, rfl, rfl, hk, HRo, HB, HBx⟩ := hrel
          by_cases hlt : k < xs.length
          · have HP := Lib.hid (G3.out wr B cap k hlt HRo.out.2.1 HRo.out.2.2 HRo.out.1)
            have d1 := HXx.out wr k HB.out hlt
            have i0 : (0 : Int) ≤ (k : Int) := by omega
            have j1 : (k : Int) < (xs.length : Int) := by omega
            generalize xs.getD k ⟨#[]⟩ = x at HP d1
            go_wp2_with fail
            refine HP.out.mono ?_
            rintro e w4 ⟨B2, cap2, rfl, hr2, q1, q2, hb4⟩
            have HR4 := Lib.hid (And.intro hr2 (And.intro q1 q2))
            have HB4 := Lib.hid (HB.out.trans (hb4.mono HB.out.size))
            have HX4 := Lib.hid (boxed_below HBx.out hb4 (boxed_lt HBx.out))
            clear hr2 q1 q2 hb4 d1
            go_wp2
            go_roundw
            case rel => exact ⟨k + 1, B2, cap2, rfl, by go_num, by omega, HR4, HB4, HX4⟩
            case measure => simp [intOf]; omega
          · obtain rfl : k = xs.length := by omega
            rw [HTk.out] at HRo
            have HG1 := Lib.hid (HFr.out wr B cap HB.out HRo.out.1)
            have HXl := Lib.hid (boxed_lt HBx.out)
            go_wp2_with fail
            refine HG1.out.mono ?_
            rintro e w3 ⟨v, rfl, hown, hb3⟩
            have HX3 := Lib.hid (boxed_below HBx.out hb3 HXl.out)
            have HB3 := Lib.hid (HB.out.trans (hb3.mono HB.out.size))
            obtain ⟨gg, cap3, rfl, hr3, hgg, _, _⟩ := rowO_made hown HR.out.2.2.1.symm hm1
            have HS3 : Hid (Src w3 (some ⟨gg, 0, none⟩) gg 0 (fstL (srtX xs) m) ∧ w.heap.size < gg ∧ (∀ j, j < m.length → w3.frozen? ⟨gg, j, none⟩ = false)) := Lib.hid ⟨hr3.src, by have := HXl.out; omega, fun j hj => hr3.opn j (by rw [HR.out.2.2.1]; exact hj)⟩
            have c4 := HX3.out.cell
            have f4 := HX3.out.frozen
            clear hown hr3 hgg hb3
            go_wp2
            refine bodyPost_ret (res_tab2 rfl _ rfl (HX3.out.set _)) rfl ?_
            refine ⟨some ⟨gg, 0, none⟩, gg, cap3, by rw [HR.out.2.2.1]; rfl, ⟨fun _ => rfl, fun j x hx => ?_⟩, fun _ => by have := HS3.out.2.1; omega, fun j hj => ?_, HB3.out.setCell (p := ⟨w.heap.size, 0, none⟩) (by simp) _⟩
            · rw [World.cell?_setCell_other _ _ _ _ (by intro e; have e2 := congrArg Addr.block e; have := HS3.out.2.1; simp only at e2; omega)]
              exact HS3.out.1.2 j x hx
            · rw [World.frozen?_setCell]
              exact HS3.out.2.2 j (by rw [← HR.out.2.2.1]; exact hj)
      · have hno : bfB xs l = false := by unfold bfB; rw [ht, hw]; simp; omega
        rw [bf_no hno, hno]
        have i1 : (xs.length : Int) < (l.length : Int) := by omega
        clear h hs ht hw hno hle F G
        go_enter Try.func58, Try.ntmps58
        go_wp2_with fail
        refine (F2.out _ HB0.out).mono ?_
        rintro e w1 ⟨rfl, hb⟩
        have HX1 := Lib.hid (boxed_below HX.out hb (by simp))
        have HB1 := Lib.hid (HB0.out.trans (hb.mono HB0.out.size))
        have c4 := HX1.out.cell
        have f4 := HX1.out.frozen
        clear hb
        go_wp2_with fail
        refine (G2.out _ HB1.out).mono ?_
        rintro e w2 ⟨rfl, rfl⟩
        go_wp2
        refine bodyPost_ret (res_tab2 rfl _ rfl (HX1.out.set _)) rfl ?_
        exact tabOut_none (HB1.out.setCell (p := ⟨w.heap.size, 0, none⟩) (by simp) _)
    · have hw2 : wtB l = false := by simpa using hw
      have G2 : Hid (∀ W, Below w.heap.size w W → Calls Try.prog 108 #[.slice a1 l.length l.length] W fun e w' => e = .returned (.bool false) ∧ w' = W) := Lib.hid fun W hb => by rw [← hw2]; exact G.out W hb
      have hno : bfB xs l = false := by unfold bfB; rw [hw2]; simp
      rw [bf_no hno, hno]
      clear h hs ht hw hw2 hno F G
      go_enter Try.func58, Try.ntmps58
      go_wp2_with fail
      refine (F2.out _ HB0.out).mono ?_
      rintro e w1 ⟨rfl, hb⟩
      have HX1 := Lib.hid (boxed_below HX.out hb (by simp))
      have HB1 := Lib.hid (HB0.out.trans (hb.mono HB0.out.size))
      have c4 := HX1.out.cell
      have f4 := HX1.out.frozen
      clear hb
      go_wp2_with fail
      refine (G2.out _ HB1.out).mono ?_
      rintro e w2 ⟨rfl, rfl⟩
      go_wp2
      refine bodyPost_ret (res_tab2 rfl _ rfl (HX1.out.set _)) rfl ?_
      exact tabOut_none (HB1.out.setCell (p := ⟨w.heap.size, 0, none⟩) (by simp) _)
  · have hf2 : tableB xs = false := by simpa using ht
    have F2 := Lib.hid fun W hb => val_eq (v' := .bool false) (F.out W hb) (by rw [hf2])
    have hno : bfB xs l = false := by unfold bfB; rw [hf2]; rfl
    rw [bf_no hno, hno]
    clear h hs ht hf2 hno F G
    go_enter Try.func58, Try.ntmps58
    go_wp2_with fail
    refine (F2.out _ HB0.out).mono ?_
    rintro e w1 ⟨rfl, hb⟩
    have HX1 := Lib.hid (boxed_below HX.out hb (by simp))
    have HB1 := Lib.hid (HB0.out.trans (hb.mono HB0.out.size))
    have c4 := HX1.out.cell
    have f4 := HX1.out.frozen
    clear hb
    go_wp2
    refine bodyPost_ret (res_tab2 rfl _ rfl (HX1.out.set _)) rfl ?_
    exact tabOut_none (HB1.out.setCell (p := ⟨w.heap.size, 0, none⟩) (by simp) _)
theorem bestFrom_len (xs : List ByteArray) (l : List Int) : (bfR xs l).length ≤ 1048576 := by
  unfold bfR
  split
  · rename_i h
    unfold bfB at h
    simp only [Bool.and_eq_true] at h
    obtain ⟨m, rfl, hm⟩ := wtB_nat h.2.1
    rw [fstL_len, List.length_map, zs_len]; have := hm.len; omega
  · simp
theorem bestFrom_both (xs : List ByteArray) (l : List Int) (hxl : xs.length ≤ 1048576) (hxt : ∀ x ∈ xs, x.size ≤ 1048576) (hl : l.length ≤ 1048576) : ∃ (ys : List ByteArray) (R1 : Bool), ys.length ≤ 1048576 ∧
    Hid (∀ W a b o c, ListIn W a b o xs → ∀ a1 g1, SrcV W a1 g1 (intz l) → Calls Try.prog 58 #[.slice a xs.length c, .slice a1 l.length l.length] W (TabOut ys R1 W)) ∧
    Hid (∀ W a b o c, ListIn W a b o xs → ∀ a1 g1, SrcV W a1 g1 (intz l) → Calls Try.prog 61 #[.slice a xs.length c, .slice a1 l.length l.length] W (TabOut ys R1 W)) :=
  ⟨bfR xs l, bfB xs l, bestFrom_len xs l, fun W a b o c h a1 g1 hs => sBestFromT_any a b o c xs a1 g1 l W h hs hl, fun W a b o c h a1 g1 hs => bestFromT_any a b o c xs a1 g1 l.length l W h hs hl⟩
end Go.Proofs.Ytdphjnbelggcfaa
